/- Layer 15: the closure of dropForgotten, IndexFunc, DeleteFunc. -/
import Derived.Test.YtpjjenhimnkdcaaESyb
namespace Go.Proofs.Ytpjjenhimnkdcaa
open Go.RowKit Go.Maps
set_option linter.unusedVariables false
set_option maxRecDepth 20000

/-- The table, and the box that the closure holds. -/
structure BX (W : World) (t mb q : Nat) (L : List Bt) (V : List Wt) (U : Nat) : Prop where
  ts : TS W t mb q L V
  box : W.heap[U]? = some (.cells #[.pointer (some ⟨t, 0, none⟩)] 24 (0, 0))
theorem BX.below {W W' : World} {t mb q : Nat} {L : List Bt} {V : List Wt} {U : Nat} (h : BX W t mb q L V U) (hb : Below W.heap.size W W') : BX W' t mb q L V U := ⟨h.ts.below hb, (hb.block U (lt_of_block h.box)).trans h.box⟩
set_option maxHeartbeats 1000000 in
theorem clo_ok (w : World) (t mb q : Nat) (L : List Bt) (V : List Wt) (U : Nat) (h : BX w t mb q L V U) (p s who : Int) (p0 : 0 ≤ p) (p1 : p ≤ 2147483647) (s0 : 0 ≤ s) (s1 : s ≤ 2147483647) :
    Calls Try.prog 38 #[.agg #[.int .i64 p, .int .i64 s, .int .i64 who], .pointer (some ⟨U, 0, none⟩)] w fun e w' => e = .returned (.bool (!(fnd L p s).isSome)) ∧ Below w.heap.size w w' := by
  obtain ⟨X, hX⟩ : ∃ X, w.heap.size = X := ⟨_, rfl⟩
  have hba := below_a w (.cells #[.int .i64 p, .int .i64 s, .int .i64 who] 63)
  have HP : Hid (BX (w.alloc (.cells #[.int .i64 p, .int .i64 s, .int .i64 who] 63)) t mb q L V U ∧ Below X w (w.alloc (.cells #[.int .i64 p, .int .i64 s, .int .i64 who] 63)) ∧ (w.alloc (.cells #[.int .i64 p, .int .i64 s, .int .i64 who] 63)).heap[X]? = some (.cells #[.int .i64 p, .int .i64 s, .int .i64 who] 63 (0, 0))) := ⟨h.below hba, by rw [← hX]; exact hba, by rw [← hX]; exact heap_alloc_new _ _⟩
  obtain ⟨c, hc⟩ : ∃ c, fb L p s = c := ⟨_, rfl⟩
  obtain ⟨f, hf⟩ : ∃ f, (fnd L p s).isSome = f := ⟨_, rfl⟩
  have HLK : Hid (∀ W, TS W t mb q L V → (Instr.lookup 52 (.map (some mb)) (.agg #[.int .i64 p, .int .i64 s]) true).run Try.prog W = .ok (.tuple #[c.v, .bool f]) W) := fun W hW => by
    have := (look_m hW.map p s p0 p1 s0 s1).1
    rw [hc, hf] at this
    exact this
  rw [hf]
  clear h hba hc hf p0 p1 s0 s1
  obtain ⟨e0, e1, e2, e3, e4⟩ := c
  simp only [Bt.v] at *
  go_enter Try.func38, Try.ntmps38
  go_upto_region 1 with fail
  try rw [hX]
  generalize (w.alloc (.cells #[.int .i64 p, .int .i64 s, .int .i64 who] 63)) = w2 at HP
  have hU : w2.cell? ⟨U, 0, none⟩ = some (.pointer (some ⟨t, 0, none⟩)) := by simp [World.cell?, HP.out.1.box]
  have hU1 := fun o => cellB (below_ad w2 o) hU
  have c2 := HP.out.1.ts.cells.2.2
  have c21 := fun o => cellB (below_ad w2 o) c2
  have l20 := HLK.out _ (HP.out.1.ts.below (below_d w2))
  have l21 := fun o => HLK.out _ (HP.out.1.ts.below (below_ad w2 o))
  have z0 : w2.cell? ⟨X, 0, none⟩ = some (.int .i64 p) := by simp [World.cell?, HP.out.2.2]
  have z1 : w2.cell? ⟨X, 1, none⟩ = some (.int .i64 s) := by simp [World.cell?, HP.out.2.2]
  have z01 := fun o => cellB (below_ad w2 o) z0
  have z11 := fun o => cellB (below_ad w2 o) z1
  go_region
  have HB3 : Hid (Below X w (w2.alloc (.cells #[.int .i64 e0, .int .i64 e1, .int .i64 e2, .int .i64 e3, .int .i64 e4, .slice none 0 0] 33)).drew) := HP.out.2.1.trans ((below_ad w2 _).mono (by have := lt_of_block HP.out.2.2; omega))
  clear c2 c21 l20 l21 z0 z1 z01 z11 hU hU1
  go_upto_region 2 with fail
  generalize (w2.alloc (.cells #[.int .i64 e0, .int .i64 e1, .int .i64 e2, .int .i64 e3, .int .i64 e4, .slice none 0 0] 33)).drew = w3 at HB3
  go_wp2
  go_ret
  exact ⟨rfl, by rw [hX]; exact HB3.out⟩
set_option maxHeartbeats 1000000 in
theorem indexf_ok (w : World) (t mb q : Nat) (L : List Bt) (V A B : List Wt) (U : Nat) (a : Option Addr) (c n : Nat) (h : BX w t mb q L V U) (hin : WIn w a (A ++ B)) (hn : (A ++ B).length = n) (hl : n ≤ 64) (hA : ∀ x ∈ A, (fnd L x.p x.s).isSome = true) (hB : ∀ x ∈ B, (fnd L x.p x.s).isSome = false) (hbd : ∀ x ∈ A ++ B, 0 ≤ x.p ∧ x.p ≤ 2147483647 ∧ 0 ≤ x.s ∧ x.s ≤ 2147483647) :
    Calls Try.prog 47 #[.slice a n c, .func (Fn.func 38) #[] #[.pointer (some ⟨U, 0, none⟩)]] w fun e w' => e = .returned (.int .i64 (if B.length = 0 then -1 else (A.length : Int))) ∧ Below w.heap.size w w' := by
  have HH : Hid (BX w t mb q L V U ∧ WIn w a (A ++ B)) := ⟨h, hin⟩
  have HAB := hide (And.intro hA (And.intro hB hbd))
  have hal : A.length + B.length = n := by rw [← hn]; simp
  clear h hin hn hA hB hbd
  obtain ⟨r, hr⟩ : ∃ r : Int, (if B.length = 0 then -1 else (A.length : Int)) = r := ⟨_, rfl⟩
  rw [hr]
  have HR := hide hr
  clear hr
  go_enter Try.func47, Try.ntmps47
  go_wp2
  go_loopw [8] (fun i wr => ∃ k : Nat, i = .int .i64 (k : Nat) ∧ k ≤ A.length ∧ BX wr t mb q L V U ∧ WIn wr a (A ++ B) ∧ Below w.heap.size w wr) (fun i _ => n - (intOf i).toNat)
  case atStart => exact ⟨0, rfl, Nat.zero_le _, HH.out.1, HH.out.2, Below.refl _ _⟩
  case round =>
    obtain ⟨k, rfl, hk, hbx, hwin, hbel⟩ := hrel
    have HS := hide (And.intro hbx (And.intro hwin hbel))
    clear HH hbx hbel
    by_cases hlt : k < n
    · have hlti : (k : Int) < (n : Int) := by omega
      obtain ⟨y, hy⟩ : ∃ y, (A ++ B)[k]? = some y := ⟨_, List.getElem?_eq_getElem (by simp; omega)⟩
      obtain ⟨g, rfl, _, c0, c1, c2⟩ := hwin _ _ hy
      obtain ⟨b0, b1, b2, b3⟩ := HAB.out.2.2 y (List.mem_of_getElem? hy)
      have hcl := clo_ok wr t mb q L V U HS.out.1 y.p y.s y.who b0 b1 b2 b3
      by_cases hkA : k < A.length
      · have hf : (fnd L y.p y.s).isSome = true := HAB.out.1 y (by rw [List.getElem?_append_left hkA] at hy; exact List.mem_of_getElem? hy)
        rw [hf] at hcl
        have HCL := hide hcl
        obtain ⟨yp, ys, yw⟩ := y
        simp only [Bool.not_true] at HCL c0 c1 c2
        clear hcl hf b0 b1 b2 b3 hy hwin
        go_wp2_with fail
        refine HCL.out.mono ?_
        rintro e w1 ⟨rfl, hb1⟩
        have HN := hide (And.intro (HS.out.1.below hb1) (And.intro (HS.out.2.1.below hb1) (HS.out.2.2.trans (hb1.mono HS.out.2.2.size))))
        clear hb1 HCL HS
        go_wp2
        go_roundw
        case rel => exact ⟨k + 1, by go_num, by omega, HN.out.1, HN.out.2.1, HN.out.2.2⟩
        case measure => simp [intOf]; omega
      · obtain rfl : k = A.length := by omega
        have hf : (fnd L y.p y.s).isSome = false := HAB.out.2.1 y (by rw [List.getElem?_append_right (Nat.le_refl _)] at hy; exact List.mem_of_getElem? hy)
        rw [hf] at hcl
        have HCL := hide hcl
        have hB0 : ¬ B.length = 0 := by omega
        obtain ⟨yp, ys, yw⟩ := y
        simp only [Bool.not_false] at HCL c0 c1 c2
        clear hcl hf b0 b1 b2 b3 hy hwin
        go_wp2_with fail
        refine HCL.out.mono ?_
        rintro e w1 ⟨rfl, hb1⟩
        have HN := hide (HS.out.2.2.trans (hb1.mono HS.out.2.2.size))
        clear hb1 HCL HS
        go_wp2
        go_ret
        exact ⟨by rw [← HR.out, if_neg hB0]; rfl, HN.out⟩
    · have hlti : ¬ (k : Int) < (n : Int) := by omega
      clear hwin
      go_wp2
      go_ret
      have hB0 : B.length = 0 := by omega
      exact ⟨by rw [← HR.out, if_pos hB0]; rfl, HS.out.2.2⟩
end Go.Proofs.Ytpjjenhimnkdcaa
