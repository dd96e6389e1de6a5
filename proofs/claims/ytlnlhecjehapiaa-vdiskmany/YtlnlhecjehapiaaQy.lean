/- Layer 8: VdiskMany, the walk. -/
import Derived.Test.YtlnlhecjehapiaaQx
namespace Go.Proofs.Ytlnlhecjehapiaa
open Go.RowKit Go.Maps Go.Sort
set_option linter.unusedVariables false
set_option maxRecDepth 20000

theorem andK (x : Int) (k : Nat) (hk : k ≤ 4095) : ∃ a : Nat, a ≤ k ∧ bits .and .i64 x (k : Int) = (a : Int) := by
  have h : (BitVec.ofInt 64 x &&& BitVec.ofInt 64 (k : Int)).toNat ≤ k := by
    rw [BitVec.toNat_and]
    refine Nat.le_trans Nat.and_le_right ?_
    rw [BitVec.toNat_ofInt]
    omega
  refine ⟨_, h, ?_⟩
  show IntKind.i64.wrap ((BitVec.ofInt 64 x &&& BitVec.ofInt 64 (k : Int)).toNat : Int) = _
  rw [IntKind.wrap_i64]
  omega
theorem ky_conv (W : World) (i q r : Nat) (hq : i / 16 = q) (hr : i % 16 = r) (hi : i < 256) :
    (convert 48 9 (.slice (some ⟨W.heap.size, 0, none⟩) 3 3)).run Try.prog (W.alloc (.cells #[.int .u8 102, .int .u8 (97 + (q : Int)), .int .u8 (97 + (r : Int))] 5)) = .ok (.string (ky i)) (W.alloc (.cells #[.int .u8 102, .int .u8 (97 + (q : Int)), .int .u8 (97 + (r : Int))] 5)) := by
  have hb : bcells [102, 97 + q, 97 + r] = [.int .u8 102, .int .u8 (97 + (q : Int)), .int .u8 (97 + (r : Int))] := by simp [bcells]
  have := conv_row (P := Try.prog) (W.alloc (.cells #[.int .u8 102, .int .u8 (97 + (q : Int)), .int .u8 (97 + (r : Int))] 5)) 48 9 5 0 (.slice (some ⟨W.heap.size, 0, none⟩) 3 3) [102, 97 + q, 97 + r] Try.underlying48 Try.underlying5 Try.underlying9
    ⟨rfl, .inr ⟨W.heap.size, 3, #[.int .u8 102, .int .u8 (97 + (q : Int)), .int .u8 (97 + (r : Int))], rfl, Nat.zero_le _, heap_alloc_new _ _, by simp, by decide, rfl, by rw [hb]; rfl⟩⟩ (fun x hx => by simp at hx; omega)
  rw [this]
  unfold ky
  rw [hq, hr]
/-- A disk of so many files, with so many bytes. -/
def MQ (w : World) (B d k cnt us : Nat) (x y : Option (List Nat × Nat)) (wr : World) : Prop :=
  Below B w wr ∧ ∃ F, VD wr B d 4096 F cnt us ∧ F (ky k).data.toList = x ∧ F mor = y ∧ ∀ t x, F t = some x → t.length ≤ 32
theorem MQ.below {w wr w' : World} {B d k cnt us : Nat} {x y : Option (List Nat × Nat)} (h : MQ w B d k cnt us x y wr) (hb : Below wr.heap.size wr w') : MQ w B d k cnt us x y w' := by
  obtain ⟨h0, F, h1, h2⟩ := h
  exact ⟨h0.trans ⟨hb.os, hb.tape, hb.output, hb.size, fun k hk => hb.block k (Nat.lt_of_lt_of_le hk h1.base)⟩, F, h1.below hb, h2⟩
theorem MSt.mq {w wr : World} {B d k : Nat} (h : MSt w B d 256 wr) (hk : k < 256) : MQ w B d k 256 0 (some ([], 0)) none wr := by
  obtain ⟨F, h1, h2, h3, h4⟩ := h.st
  exact ⟨h.bel, F, h1, by rw [h2 k hk, if_pos hk], h3, h4⟩
theorem small_upd {F : List UInt8 → Option (List Nat × Nat)} {s : List UInt8} {v : Option (List Nat × Nat)} (h : ∀ t x, F t = some x → t.length ≤ 32) (hs : s.length ≤ 32) : ∀ t x, upd F s v t = some x → t.length ≤ 32 := fun t x ht => by
  unfold upd at ht
  by_cases e : t = s
  · rw [e]; exact hs
  · rw [if_neg e] at ht; exact h t x ht
theorem upd_other (F : List UInt8 → Option (List Nat × Nat)) (s t : List UInt8) (v : Option (List Nat × Nat)) (h : t ≠ s) : upd F s v t = F t := by unfold upd; rw [if_neg h]
section
variable {w wr : World} {B d k : Nat}
theorem mq_full (h : MQ w B d k 256 0 (some ([], 0)) none wr) :
    Calls Try.prog 9 #[.pointer (some ⟨d, 0, none⟩), .string ⟨#[109, 111, 114, 101]⟩, .string ⟨#[120]⟩] wr fun e w' => e = .returned (.int .i64 2) ∧ w' = wr := by
  obtain ⟨h0, F, h1, h2, h3, h4⟩ := h
  exact append_full wr B d 4096 256 0 F h1 ⟨#[109, 111, 114, 101]⟩ ⟨#[120]⟩ May_more h3 (by omega)
theorem mq_put (h : MQ w B d k 256 0 (some ([], 0)) none wr) (hk : k < 256) :
    Calls Try.prog 9 #[.pointer (some ⟨d, 0, none⟩), .string (ky k), .string ⟨#[120]⟩] wr fun e w' => e = .returned (.int .i64 0) ∧ MQ w B d k 256 1 (some ([120], 0)) none w' := by
  obtain ⟨h0, F, h1, h2, h3, h4⟩ := h
  refine (append_some wr B d 4096 256 0 F h1 (ky k) ⟨#[120]⟩ (ky_may k hk) [] 0 h2 (by decide)).mono ?_
  rintro e w' ⟨rfl, h5, h6⟩
  exact ⟨rfl, h0.trans h6.below, _, h5, upd_same _ _ _, by rw [upd_other _ _ _ _ (fun e => ky_mor k e.symm)]; exact h3, small_upd h4 (by rw [ky_len]; omega)⟩
theorem mq_names {cnt us : Nat} {x y : Option (List Nat × Nat)} (h : MQ w B d k cnt us x y wr) (hc : 0 < cnt) :
    Calls Try.prog 18 #[.pointer (some ⟨d, 0, none⟩)] wr fun e w' => ∃ g cap, e = .returned (.slice (some ⟨g, 0, none⟩) cnt cap) ∧ MQ w B d k cnt us x y w' := by
  have h' := h
  obtain ⟨h0, F, h1, h2, h3, h4⟩ := h
  refine (names_len wr B d 4096 cnt us F h1 hc h4).mono ?_
  rintro e w' ⟨g, cap, rfl, hb⟩
  exact ⟨g, cap, rfl, h'.below hb⟩
theorem mq_remove (h : MQ w B d k 256 1 (some ([120], 0)) none wr) (hk : k < 256) :
    Calls Try.prog 17 #[.pointer (some ⟨d, 0, none⟩), .string (ky k)] wr fun e w' => e = .returned (.int .i64 0) ∧ MQ w B d k 255 0 none none w' := by
  obtain ⟨h0, F, h1, h2, h3, h4⟩ := h
  refine (remove_some wr B d 4096 256 1 F h1 (ky k) (ky_may k hk) [120] 0 h2).mono ?_
  rintro e w' ⟨rfl, h5, h6⟩
  exact ⟨rfl, h0.trans h6.below, _, h5, upd_same _ _ _, by rw [upd_other _ _ _ _ (fun e => ky_mor k e.symm)]; exact h3, small_upd h4 (by rw [ky_len]; omega)⟩
theorem mq_more (h : MQ w B d k 255 0 none none wr) :
    Calls Try.prog 9 #[.pointer (some ⟨d, 0, none⟩), .string ⟨#[109, 111, 114, 101]⟩, .string ⟨#[120]⟩] wr fun e w' => e = .returned (.int .i64 0) ∧ MQ w B d k 256 1 none (some ([120], 0)) w' := by
  obtain ⟨h0, F, h1, h2, h3, h4⟩ := h
  refine (append_none wr B d 4096 255 0 F h1 ⟨#[109, 111, 114, 101]⟩ ⟨#[120]⟩ May_more h3 (by omega) (by decide)).mono ?_
  rintro e w' ⟨rfl, h5, h6⟩
  exact ⟨rfl, h0.trans h6.below, _, h5, (upd_other F mor _ _ (ky_mor k)).trans h2, upd_same _ _ _, small_upd h4 (by decide)⟩
theorem mq_full2 (h : MQ w B d k 256 1 none (some ([120], 0)) wr) (hk : k < 256) :
    Calls Try.prog 9 #[.pointer (some ⟨d, 0, none⟩), .string (ky k), .string ⟨#[]⟩] wr fun e w' => e = .returned (.int .i64 2) ∧ w' = wr := by
  obtain ⟨h0, F, h1, h2, h3, h4⟩ := h
  exact append_full wr B d 4096 256 1 F h1 (ky k) ⟨#[]⟩ (ky_may k hk) h2 (by omega)
theorem mq_rename (h : MQ w B d k 256 1 none (some ([120], 0)) wr) (hk : k < 256) :
    Calls Try.prog 16 #[.pointer (some ⟨d, 0, none⟩), .string ⟨#[109, 111, 114, 101]⟩, .string (ky k)] wr fun e w' => e = .returned (.int .i64 0) ∧ MQ w B d k 256 1 (some ([120], 0)) none w' := by
  obtain ⟨h0, F, h1, h2, h3, h4⟩ := h
  refine (rename_ok wr B d 4096 256 1 F h1 ⟨#[109, 111, 114, 101]⟩ (ky k) May_more (ky_may k hk) [120] 0 h3 h2).mono ?_
  rintro e w' ⟨rfl, h5, h6⟩
  exact ⟨rfl, h0.trans h6.below, _, h5, upd_same _ _ _, by rw [upd_other _ _ _ _ (fun e => ky_mor k e.symm)]; exact upd_same _ _ _, small_upd (small_upd h4 (by decide)) (by rw [ky_len]; omega)⟩
theorem mq_used {cnt us : Nat} {x y : Option (List Nat × Nat)} (h : MQ w B d k cnt us x y wr) :
    Calls Try.prog 19 #[.pointer (some ⟨d, 0, none⟩)] wr fun e w' => e = .returned (.int .i64 (us : Nat)) ∧ MQ w B d k cnt us x y w' := by
  have h' := h
  obtain ⟨h0, F, h1, h2, h3, h4⟩ := h
  refine (used_call wr B d 4096 cnt us F h1).mono ?_
  rintro e w' ⟨rfl, hb⟩
  exact ⟨rfl, h'.below hb⟩
theorem MQ.base {cnt us : Nat} {x y : Option (List Nat × Nat)} (h : MQ w B d k cnt us x y wr) : B ≤ wr.heap.size := by
  obtain ⟨h0, F, h1, _⟩ := h
  exact h1.base
end
set_option maxHeartbeats 4000000 in
theorem many_walk (which : Int) (w : World) :
    Calls Try.prog 6 #[.int .i64 which] w fun e w' => e = .returned (.bool true) ∧ Below w.heap.size w w' := by
  have H0 : Hid (∀ _ : Unit, Calls Try.prog 7 #[.int .i64 4096] w fun e w' => e = .returned (.tuple #[.pointer (some ⟨w.heap.size + 1, 0, none⟩), .int .i64 0]) ∧ VD w' w.heap.size (w.heap.size + 1) 4096 (fun _ => none) 0 0 ∧ Below w.heap.size w w') := fun _ => new_ok w 4096 (by decide)
  have HAw : Hid (∀ W, Calls Try.prog 8 #[] W fun e w' => e = .returned (.bool true) ∧ Below W.heap.size W w') := fun W => awake_ok W
  obtain ⟨d, hd⟩ : ∃ d, w.heap.size + 1 = d := ⟨_, rfl⟩
  obtain ⟨B, hB⟩ : ∃ d, w.heap.size = d := ⟨_, rfl⟩
  rw [hd, hB] at H0
  rw [hB]
  clear hd hB
  obtain ⟨k, hk, hand⟩ := andK which 255 (by omega)
  have HAND : Hid (bits .and .i64 which 255 = (k : Int) ∧ k < 256) := ⟨hand, by omega⟩
  clear hand hk
  go_enter Try.func6, Try.ntmps6
  go_wp2_with fail
  refine (H0.out ()).mono ?_
  rintro e w1 ⟨rfl, hv1, hb1⟩
  have H1 : Hid (MSt w B d 0 w1) := ⟨hb1, fun _ => none, hv1, fun j hj => by simp, rfl, fun t x h => by cases h⟩
  clear hv1 hb1 H0
  go_wp2_with fail
  go_loopw [5] (fun v5 wr => ∃ (i : Nat), v5 = .int .i64 (i : Nat) ∧ i ≤ 256 ∧ Hid (MSt w B d i wr)) (fun v5 _ => 256 - (intOf v5).toNat)
  case atStart => exact ⟨0, rfl, by omega, H1.out⟩
  case round =>
    obtain ⟨i, rfl, hi, HS⟩ := hrel
    by_cases hlt : i < 256
    · have hlti : (i : Int) < 256 := by omega
      have hdv : Int.tdiv (i : Int) 16 = ((i / 16 : Nat) : Int) := by rw [Int.tdiv_eq_ediv_of_nonneg (by omega)]; rfl
      have hmd : Int.tmod (i : Int) 16 = ((i % 16 : Nat) : Int) := by rw [Int.tmod_eq_emod_of_nonneg (by omega)]; rfl
      obtain ⟨q, hq⟩ : ∃ x, i / 16 = x := ⟨_, rfl⟩
      obtain ⟨r, hr⟩ : ∃ x, i % 16 = x := ⟨_, rfl⟩
      rw [hq] at hdv
      rw [hr] at hmd
      have hq1 : q ≤ 15 := by omega
      have hr1 : r ≤ 15 := by omega
      have hcv := ky_conv wr i q r hq hr hlt
      have HM : Hid (∀ _ : Unit, Calls Try.prog 9 #[.pointer (some ⟨d, 0, none⟩), .string (ky i), .string ⟨#[]⟩] (wr.alloc (.cells #[.int .u8 102, .int .u8 (97 + (q : Int)), .int .u8 (97 + (r : Int))] 5)) fun e w' => e = .returned (.int .i64 0) ∧ MSt w B d (i + 1) w') := fun _ => many_append (HS.out.below ((Below.refl _ _).alloc (Nat.le_refl _) _)) hlt
      clear hq hr
      go_wp2_with fail
      refine (HM.out ()).mono ?_
      rintro e w2 ⟨rfl, h2⟩
      have H2 : Hid (MSt w B d (i + 1) w2) := h2
      clear h2 hcv
      go_wp2
      exact ⟨⟨i + 1, by go_num, by omega, H2.out⟩, by simp [intOf]; omega⟩
    · have hlti : ¬ (i : Int) < 256 := by omega
      obtain rfl : i = 256 := by omega
      obtain ⟨hand, hk⟩ := HAND.out
      have hdv : Int.tdiv (k : Int) 16 = ((k / 16 : Nat) : Int) := by rw [Int.tdiv_eq_ediv_of_nonneg (Int.natCast_nonneg k)]; rfl
      have hmd : Int.tmod (k : Int) 16 = ((k % 16 : Nat) : Int) := by rw [Int.tmod_eq_emod_of_nonneg (Int.natCast_nonneg k)]; rfl
      obtain ⟨q, hq⟩ : ∃ x, k / 16 = x := ⟨_, rfl⟩
      obtain ⟨r, hr⟩ : ∃ x, k % 16 = x := ⟨_, rfl⟩
      rw [hq] at hdv
      rw [hr] at hmd
      have hq1 : q ≤ 15 := by rw [← hq]; exact Nat.le_of_lt_succ (Nat.div_lt_of_lt_mul hk)
      have hr1 : r ≤ 15 := by rw [← hr]; exact Nat.le_of_lt_succ (Nat.mod_lt k (by decide))
      have hcv := ky_conv wr k q r hq hr hk
      have HM : Hid (MQ w B d k 256 0 (some ([], 0)) none (wr.alloc (.cells #[.int .u8 102, .int .u8 (97 + (q : Int)), .int .u8 (97 + (r : Int))] 5))) := (HS.out.below ((Below.refl _ _).alloc (Nat.le_refl _) _)).mq hk
      clear hq hr
      go_wp2_with fail
      refine (mq_full HM.out).mono ?_
      rintro e W ⟨rfl, hW⟩
      obtain rfl := hW.symm
      clear hW
      go_wp2_with fail
      refine (mq_put HM.out hk).mono ?_
      rintro e w2 ⟨rfl, h2⟩
      have H2 : Hid (MQ w B d k 256 1 (some ([120], 0)) none w2) := h2
      clear h2 hcv hand
      go_wp2_with fail
      refine (mq_names H2.out (by decide)).mono ?_
      rintro e w3 ⟨g3, cap3, rfl, h3⟩
      have H3 : Hid (MQ w B d k 256 1 (some ([120], 0)) none w3) := h3
      clear h3
      go_wp2_with fail
      refine (mq_remove H3.out hk).mono ?_
      rintro e w4 ⟨rfl, h4⟩
      have H4 : Hid (MQ w B d k 255 0 none none w4) := h4
      clear h4
      go_wp2_with fail
      refine (mq_more H4.out).mono ?_
      rintro e w5 ⟨rfl, h5⟩
      have H5 : Hid (MQ w B d k 256 1 none (some ([120], 0)) w5) := h5
      clear h5
      go_wp2_with fail
      refine (mq_full2 H5.out hk).mono ?_
      rintro e W ⟨rfl, hW⟩
      obtain rfl := hW.symm
      clear hW
      go_wp2_with fail
      refine (mq_rename H5.out hk).mono ?_
      rintro e w6 ⟨rfl, h6⟩
      have H6 : Hid (MQ w B d k 256 1 (some ([120], 0)) none w6) := h6
      clear h6
      go_wp2_with fail
      refine (mq_names H6.out (by decide)).mono ?_
      rintro e w7 ⟨g7, cap7, rfl, h7⟩
      have H7 : Hid (MQ w B d k 256 1 (some ([120], 0)) none w7) := h7
      clear h7
      go_wp2_with fail
      refine (mq_used H7.out).mono ?_
      rintro e w8 ⟨rfl, h8⟩
      have H8 : Hid (MQ w B d k 256 1 (some ([120], 0)) none w8) := h8
      clear h8
      go_wp2_with fail
      refine (HAw.out w8).mono ?_
      rintro e w9 ⟨rfl, hb9⟩
      have H9 : Hid (Below B w w9) := H8.out.1.trans (hb9.mono H8.out.base)
      clear hb9
      go_wp2
      go_ret
      exact ⟨rfl, H9.out⟩
theorem vdiskMany_walk (which : Int) (w : World) (hn : (Lit.int .i64 which).wf = true) : Calls Try.prog 6 #[.int .i64 which] w fun e w' => e = .returned (.bool true) ∧ Below w.heap.size w w' := many_walk which w
end Go.Proofs.Ytlnlhecjehapiaa
