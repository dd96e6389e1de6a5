/- Layer 15: dropForgotten. -/
import Derived.Test.YtpjjenhimnkdcaaESyd
namespace Go.Proofs.Ytpjjenhimnkdcaa
open Go.RowKit Go.Maps
set_option linter.unusedVariables false
set_option maxRecDepth 20000

set_option maxHeartbeats 1000000 in
theorem dropf_ok (w : World) (t mb q : Nat) (L : List Bt) (A B : List Wt) (h : TS w t mb q L (A ++ B)) (hA : ∀ x ∈ A, (fnd L x.p x.s).isSome = true) (hB : ∀ x ∈ B, (fnd L x.p x.s).isSome = false) (hbd : ∀ x ∈ A ++ B, 0 ≤ x.p ∧ x.p ≤ 2147483647 ∧ 0 ≤ x.s ∧ x.s ≤ 2147483647) :
    Calls Try.prog 30 #[.pointer (some ⟨t, 0, none⟩)] w fun e w' => e = .returned (.tuple #[]) ∧ TS w' t mb q L A ∧ TFr t mb w w' := by
  have hmf : ∀ (fn : Fn) (first cap : Array Value) (w : World), (Instr.makeFunc fn first cap).run Try.prog w = .ok (.func fn first cap) w := fun _ _ _ _ => rfl
  obtain ⟨U, hU⟩ : ∃ U, w.heap.size = U := ⟨_, rfl⟩
  have hba := below_a w (.cells #[.pointer (some ⟨t, 0, none⟩)] 24)
  have HT := hide (And.intro (h.below hba) (And.intro (TFr.below (mb := mb) hba h.lt) (heap_alloc_new w (.cells #[.pointer (some ⟨t, 0, none⟩)] 24))))
  rw [hU] at HT
  have HAB := hide (And.intro hA (And.intro hB hbd))
  clear h hA hB hbd hba
  go_enter Try.func30, Try.ntmps30
  go_upto_region 1 with fail
  try rw [hU]
  generalize (w.alloc (.cells #[.pointer (some ⟨t, 0, none⟩)] 24)) = w1 at HT
  clear hU
  obtain ⟨oa, oc, wa, wc, hb, ho, hr⟩ := HT.out.1.rows
  obtain ⟨n, hn⟩ : ∃ n, (A ++ B).length = n := ⟨_, rfl⟩
  rw [hn] at hb hr
  have hn64 : n ≤ 64 := by rw [← hn]; exact Nat.le_trans HT.out.1.lenV HT.out.1.hq
  have c4 : w1.cell? ⟨t, 4, none⟩ = some (.slice wa n wc) := by simp [World.cell?, hb]
  have cU : w1.cell? ⟨U, 0, none⟩ = some (.pointer (some ⟨t, 0, none⟩)) := by simp [World.cell?, HT.out.2.2]
  have hneT : (Value.slice wa n wc).ownBlock ≠ some t := rowNe hr hb (by decide)
  have hneU : (Value.slice wa n wc).ownBlock ≠ some U := rowNe hr HT.out.2.2 (by decide)
  have HCD : Hid (Calls Try.prog 37 #[.slice wa n wc, .func (Fn.func 38) #[] #[.pointer (some ⟨U, 0, none⟩)]] w1.drew fun e w' => e = .returned (.slice wa A.length wc) ∧ w'.ownsRow 0 63 3 (.slice wa A.length wc) A.length (wcs A) ∧ w1.drew.grownBy w' (Value.slice wa n wc).ownBlock) :=
    delf_ok w1.drew t mb q L (A ++ B) A B U wa wc n ⟨HT.out.1.below (below_d w1), HT.out.2.2⟩ (owns_below hr (below_d w1)) hn hn64 HAB.out.1 HAB.out.2.1 HAB.out.2.2
  have HK : Hid (∀ w4, w1.drew.grownBy w4 (Value.slice wa n wc).ownBlock → w4.cell? ⟨t, 4, none⟩ = some (.slice wa n wc) ∧ w4.cell? ⟨U, 0, none⟩ = some (.pointer (some ⟨t, 0, none⟩)) ∧ w4.frozen? ⟨t, 4, none⟩ = false) := fun w4 hg4 => by
    have hb4 := (hg4.block t HT.out.1.lt (fun e => hneT e.symm)).trans hb
    have hu4 := (hg4.block U (lt_of_block HT.out.2.2) (fun e => hneU e.symm)).trans HT.out.2.2
    exact ⟨by simp [World.cell?, hb4], by simp [World.cell?, hu4], frozen0 hb4 4⟩
  have HC4 := hide c4
  have d4 : w1.drew.cell? ⟨t, 4, none⟩ = some (.slice wa n wc) := c4
  have dU : w1.drew.cell? ⟨U, 0, none⟩ = some (.pointer (some ⟨t, 0, none⟩)) := cU
  have HAn : Hid (A.length ≤ (A ++ B).length) := by show A.length ≤ _; simp
  clear hb ho hr hneT hneU hn hn64
  obtain ⟨m, hm⟩ : ∃ m, A.length = m := ⟨_, rfl⟩
  rw [hm] at HCD HAn
  have HM := hide hm
  clear hm
  go_region_with (go_at_call 37; refine HCD.out.mono ?_; rintro e w4 ⟨rfl, hr4, hg4⟩; have HF := hide (And.intro hr4 hg4); obtain ⟨k4, kU, f4⟩ := HK.out _ hg4; clear hr4 hg4)
  all_goals
    go_end0
    have hm := HM.out
    subst hm
    have hd := TS.drop (A := A) (v' := .slice wa A.length wc) (HT.out.1.below (below_d w1)) HC4.out HF.out.2 HF.out.1 (by cases wa <;> rfl) (by simp)
    exact ⟨rfl, hd.1, (HT.out.2.1.trans (TFr.below (below_d w1) HT.out.1.lt)).trans hd.2⟩
end Go.Proofs.Ytpjjenhimnkdcaa
