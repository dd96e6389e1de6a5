/- Layer 15: Cut. -/
import Derived.Test.YtpjjenhimnkdcaaESye
namespace Go.Proofs.Ytpjjenhimnkdcaa
open Go.RowKit Go.Maps
set_option linter.unusedVariables false
set_option maxRecDepth 20000

/-- What stays of batches whose ends rise. -/
def cutB (c : Int) (L : List Bt) : List Bt := L.filter fun b => decide (b.fin ≤ c)
theorem cutB_all {c : Int} {L : List Bt} (h : ∀ b ∈ L, b.fin ≤ c) : cutB c L = L := List.filter_eq_self.2 fun b hb => by simpa using h b hb
theorem cutB_snoc {c : Int} {M : List Bt} {b : Bt} (h : ¬ b.fin ≤ c) : cutB c (M ++ [b]) = cutB c M := by
  unfold cutB
  rw [List.filter_append]
  simp [h]
theorem rowCap {w : World} {B : Nat} {E : TypeId} {size n c g : Nat} {xs : List Value} (h : w.ownsRow B E size (.slice (some ⟨g, 0, none⟩) n c) n xs) : n ≤ c ∧ c ≤ 9223372036854775807 := by
  rcases h.2 with ⟨e, _⟩ | ⟨g', cap, cur, e, _, _, h3, h4, _⟩
  · cases e
  · cases e; unfold maxLen at h4; omega
set_option maxHeartbeats 2000000 in
theorem cut_ok (w : World) (t mb q : Nat) (L : List Bt) (V A B : List Wt) (c : Int) (h : TS w t mb q L V) (hc : 0 ≤ c) (hV : V = A ++ B) (hA : ∀ x ∈ A, (fnd (cutB c L) x.p x.s).isSome = true) (hB : ∀ x ∈ B, (fnd (cutB c L) x.p x.s).isSome = false) (hbd : ∀ x ∈ A ++ B, 0 ≤ x.p ∧ x.p ≤ 2147483647 ∧ 0 ≤ x.s ∧ x.s ≤ 2147483647) :
    Calls Try.prog 18 #[.pointer (some ⟨t, 0, none⟩), .int .i64 c] w fun e w' => e = .returned (.int .i64 0) ∧ TS w' t mb q (cutB c L) A ∧ TFr t mb w w' := by
  subst hV
  have HG := hide (given_yes t w h.cells.1)
  have HT := hide (And.intro h (TFr.refl t mb w))
  have HAB := hide (And.intro hA (And.intro hB hbd))
  have hc0 : ¬ c < 0 := by omega
  clear h hA hB hbd hc
  go_enter Try.func18, Try.ntmps18
  go_wp2_with fail
  refine HG.out.mono ?_
  rintro e w1 ⟨rfl, hw1⟩
  obtain rfl := hw1.symm
  clear HG hw1
  go_wp2
  go_loopw [5] (fun _ wr => ∃ M : List Bt, TS wr t mb q M (A ++ B) ∧ TFr t mb w wr ∧ cutB c M = cutB c L) (fun _ wr => ordN wr t)
  case atStart => exact ⟨L, HT.out.1, HT.out.2, rfl⟩
  case round =>
    obtain ⟨M, hTS, hFr, hcut⟩ := hrel
    have HE := hide (end_ok wr t mb q M (A ++ B) hTS)
    have HS := hide (And.intro hTS (And.intro hFr hcut))
    clear hTS hFr hcut HT
    by_cases hgt : c < endL M
    · have HGT := hide hgt
      obtain ⟨en, hen⟩ : ∃ en, endL M = en := ⟨_, rfl⟩
      rw [hen] at HE hgt
      clear hen
      go_wp2_with fail
      refine HE.out.mono ?_
      rintro e w2 ⟨rfl, hb2⟩
      rcases List.eq_nil_or_concat M with rfl | ⟨N, b, rfl⟩
      · exact absurd HGT.out (by simp [endL]; omega)
      rw [List.concat_eq_append] at *
      have hT2 := HS.out.1.below hb2
      have HF2 := hide (HS.out.2.1.trans (TFr.below hb2 HS.out.1.lt))
      obtain ⟨oa, oc, wa, wc, hblk, ho, _⟩ := hT2.rows
      obtain ⟨g, rfl, hg⟩ := rowSome ho (by simp)
      have hl : (N ++ [b]).length = N.length + 1 := by simp
      have hcap := rowCap ho
      have c3 : w2.cell? ⟨t, 3, none⟩ = some (.slice (some ⟨g, 0, none⟩) (N ++ [b]).length oc) := by simp [World.cell?, hblk]
      have c2 := hT2.cells.2.2
      have hget := flat_get (fun b : Bt => [Value.int .i64 b.prod, Value.int .i64 b.seq]) 2 (fun _ => rfl) (N ++ [b]) N.length b (by simp)
      have k0 : w2.cell? ⟨g, N.length * 2, none⟩ = some (.int .i64 b.prod) := rowCell ho (by have := hget 0 (by omega); simpa [ics] using this)
      have k1 : w2.cell? ⟨g, N.length * 2 + 1, none⟩ = some (.int .i64 b.seq) := rowCell ho (by have := hget 1 (by omega); simpa [ics] using this)
      have hok := hT2.ok b (by simp)
      obtain ⟨w5, hrun, hm5, hg5⟩ := MO.del (W := w2.drew) (hT2.below (below_d w2)).map hok hT2.last.1 0
      have hb5 := (hg5.block t hT2.lt (fun e => hT2.apart (by simpa using e))).trans hblk
      have e3 : w5.cell? ⟨t, 3, none⟩ = some (.slice (some ⟨g, 0, none⟩) (N ++ [b]).length oc) := by simp [World.cell?, hb5]
      have f3 : w5.frozen? ⟨t, 3, none⟩ = false := frozen0 hb5 3
      have hpop := TS.pop (hT2.below (below_d w2)) hm5 hg5 c3
      have HP := hide (And.intro hpop.1 (And.intro ((HF2.out.trans (TFr.below (below_d w2) hT2.lt)).trans hpop.2) HS.out.1.ordN))
      have HCUT : Hid (cutB c N = cutB c L) := by
        have h1 : ¬ b.fin ≤ c := by have := HGT.out; rw [endL_snoc] at this; omega
        have h2 := HS.out.2.2
        rw [cutB_snoc h1] at h2
        exact h2
      have hlen : N.length ≤ 1000 := by have := hT2.lenL; rw [hl] at this; omega
      clear hT2 hblk ho hget hok hm5 hg5 hb5 hpop hb2 HE HS HF2 HGT
      rw [hl] at c3 e3 hcap
      obtain ⟨n, hn⟩ : ∃ n, N.length = n := ⟨_, rfl⟩
      rw [hn] at k0 k1 hlen c3 e3 hcap HP
      have HN := hide hn
      obtain ⟨n1, hn1⟩ : ∃ n1, n + 1 = n1 := ⟨_, rfl⟩
      rw [hn1] at c3 e3 hcap
      have hw1 : IntKind.i64.wrap ((n1 : Int) - 1) = (n : Int) := by rw [IntKind.wrap_i64]; omega
      have hw2 : wrap64 ((n1 : Int) - 1) = (n : Int) := by unfold wrap64; omega
      have hi : (n : Int) < (n1 : Int) := by omega
      have hi2 : n < n1 := by omega
      have hoc : (n : Int) ≤ (oc : Int) := by omega
      clear hn hn1 hl
      obtain ⟨bp, hbp⟩ : ∃ bp, b.prod = bp := ⟨_, rfl⟩
      obtain ⟨bs, hbs⟩ : ∃ bs, b.seq = bs := ⟨_, rfl⟩
      simp only [idV] at hrun
      rw [hbp] at k0 hrun
      rw [hbs] at k1 hrun
      clear hbp hbs
      go_upto_region 5 with fail
      have HB5 : Hid (Sem.run Try.prog (Builtin.delete_ #[52, 30] 0 #[.map (some mb), .agg #[.int .i64 bp, .int .i64 bs]]) w2.drew = .ok (.tuple #[]) w5) := hrun
      have d2 : w2.drew.cell? ⟨t, 2, none⟩ = some (.map (some mb)) := c2
      have d3 : w2.drew.cell? ⟨t, 3, none⟩ = some (.slice (some ⟨g, 0, none⟩) n1 oc) := c3
      have dk0 : w2.drew.cell? ⟨g, n * 2, none⟩ = some (.int .i64 bp) := k0
      have dk1 : w2.drew.cell? ⟨g, n * 2 + 1, none⟩ = some (.int .i64 bs) := k1
      clear c2 c3 k0 k1
      go_region
      go_wp2
      go_roundw
      case rel => exact ⟨N, HP.out.1, HP.out.2.1, HCUT.out⟩
      case measure =>
        have h1 := HP.out.1.ordN
        have h2 := HP.out.2.2
        rw [h1, h2]
        simp
    · have hle : ∀ b ∈ M, b.fin ≤ c := fun b hb => by
        have := endL_le HS.out.1.rise HS.out.1.ok b hb
        omega
      have HM : Hid (M = cutB c L) := by
        have h2 := HS.out.2.2
        rw [cutB_all hle] at h2
        exact h2
      obtain ⟨en, hen⟩ : ∃ en, endL M = en := ⟨_, rfl⟩
      rw [hen] at HE hgt
      clear hen hle
      go_wp2_with fail
      refine HE.out.mono ?_
      rintro e w2 ⟨rfl, hb2⟩
      have HT2 : Hid (TS w2 t mb q (cutB c L) (A ++ B) ∧ TFr t mb w w2) := by
        have h1 := HS.out.1.below hb2
        rw [HM.out] at h1
        exact ⟨h1, HS.out.2.1.trans (TFr.below hb2 HS.out.1.lt)⟩
      clear hb2 HE HS
      go_wp2_with fail
      refine (dropf_ok w2 t mb q (cutB c L) A B HT2.out.1 HAB.out.1 HAB.out.2.1 HAB.out.2.2).mono ?_
      rintro e w3 ⟨rfl, hT3, hF3⟩
      have H3 := hide (And.intro hT3 (HT2.out.2.trans hF3))
      clear hT3 hF3 HT2
      go_wp2
      go_ret
      exact ⟨rfl, H3.out.1, H3.out.2⟩
end Go.Proofs.Ytpjjenhimnkdcaa
