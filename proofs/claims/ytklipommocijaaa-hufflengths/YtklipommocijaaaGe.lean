/- The best packs. -/
import Derived.Test.YtklipommocijaaaGd
namespace Go.Proofs.Ytklipommocijaaa
open Go.RowKit PT
set_option linter.unusedVariables false

theorem wtL_pairs {l : List PT} : ∀ {m}, Pairs l m → wtL m ≤ wtL l := by
  induction l using two_ind with
  | h0 => intro m h; have e : m = [] := h; subst e; exact Nat.le_refl _
  | h1 t => intro m h; have e : m = [] := h; subst e; simp [wtL]
  | h2 a b l ih =>
    rintro m ⟨u, m', rfl, ⟨x, y, rfl⟩, h⟩
    have := ih h
    simp only [wtL, PT.wt_node]; omega
theorem wtL_mrg (a b : List PT) : wtL (mrg a b) = wtL a + wtL b := by rw [wtL_perm (mrg_perm a b), wtL_append]
/-- Weights and lengths stay small: at each level at most the singles once more. -/
theorem Lev.wt {S : List PT} : ∀ {k : Nat} {l : List PT}, Lev S k l → wtL l ≤ (k + 1) * wtL S
  | 0, l, h => by rw [show l = S from h]; omega
  | k + 1, r, ⟨l, m, h, hp, e⟩ => by
    have h1 := Lev.wt h
    have := wtL_pairs hp
    rw [e, wtL_mrg, Nat.add_mul (k + 1) 1]; omega

structure BestSt (w wr : World) (L n k : Nat) (S l : List PT) (b off c : Nat) : Prop where
  lev : Lev S k l
  row : PRow wr b off l
  lt : b < wr.heap.size
  cap : l.length ≤ c ∧ c ≤ 9223372036854775807
  laid : ∀ t ∈ l, Laid wr L n t
  bel : Below w.heap.size w wr

theorem row_form {w : World} {B n : Nat} {v : Value} {l : List PT} (h : w.ownsRow B 57 2 v n (pcs l)) (h0 : 0 < n) : ∃ g cap, v = .slice (some ⟨g, 0, none⟩) n cap ∧ g < w.heap.size ∧ n ≤ cap ∧ cap ≤ 9223372036854775807 ∧ PRow w g 0 l := by
  have h' := h
  rcases h.2 with ⟨rfl, e⟩ | ⟨g, cap, cur, rfl, _, hh, hle, hm, _⟩
  · omega
  · exact ⟨g, cap, rfl, lt_heap hh, hle, by unfold maxLen at hm; exact hm, PRow.owned h'⟩

def BestEnd (w : World) (L n most : Nat) (S : List PT) (e : Ending) (w' : World) : Prop :=
  ∃ l g o cap, e = .returned (.slice (some ⟨g, o, none⟩) (2 * S.length - 2) cap) ∧ Lev S (most - 1) l ∧ 2 * S.length - 2 ≤ l.length ∧ PRow w' g o l ∧ (∀ t ∈ l, Laid w' L n t) ∧ Below w.heap.size w w'
set_option maxRecDepth 20000 in
set_option maxHeartbeats 4000000 in
theorem bestPacks_ok (S : List PT) (L n b off c most : Nat) (w : World) (hrow : PRow w b off S) (hlaid : ∀ t ∈ S, Laid w L n t) (hL : L < w.heap.size) (hb : b < w.heap.size) (hc : S.length ≤ c) (hc2 : c ≤ 9223372036854775807)
    (h2 : 2 ≤ S.length) (hlen : S.length ≤ 288) (hwt : wtL S ≤ 316659348799488) (hm1 : 1 ≤ most) (hm2 : most ≤ 15) (hmn : S.length ≤ 2 ^ most) :
    Calls Try.prog 29 #[.slice (some ⟨b, off, none⟩) S.length c, .int .i64 most] w fun e w' => BestEnd w L n most S e w' := by
  have H0 : Hid (BestSt w w L n 0 S S b off c) := ⟨rfl, hrow, hb, ⟨hc, hc2⟩, hlaid, Below.refl _ _⟩
  have HH : Hid (PRow w b off S ∧ (∀ t ∈ S, Laid w L n t)) := ⟨hrow, hlaid⟩
  obtain ⟨N, hN⟩ : ∃ N, S.length = N := ⟨_, rfl⟩
  have HN : Hid (S.length = N) := hN
  rw [hN]
  rw [hN] at hc h2 hlen hmn
  have HMN : Hid (N ≤ 2 ^ most) := hmn
  clear hrow hlaid hN hmn
  go_enter Try.func29, Try.ntmps29
  go_wp2
  go_loopw [5, 9] (fun v5 v9 wr => ∃ (k b' o' c' : Nat) (l : List PT), v9 = .int .i64 k ∧ k ≤ most - 1 ∧ v5 = .slice (some ⟨b', o', none⟩) l.length c' ∧ Hid (BestSt w wr L n k S l b' o' c')) (fun _ v9 _ => most - (intOf v9).toNat)
  case atStart => exact ⟨0, b, off, c, S, rfl, by omega, by rw [HN.out], H0⟩
  case round =>
    obtain ⟨k, b', o', c', l, rfl, hk, rfl, HS⟩ := hrel
    have hll := HS.out.lev.length_lt (by rw [HN.out]; exact h2)
    rw [HN.out] at hll
    have hl2 : 2 * N - 2 ≤ l.length ∨ k < most - 1 := by
      by_cases e : k < most - 1
      · exact .inr e
      · left
        have hp : 2 * 2 ^ k = 2 ^ most := by
          rw [show most = k + 1 by omega, Nat.pow_succ, Nat.mul_comm]
        have := HS.out.lev.length 2 (by rw [HN.out, hp]; exact HMN.out)
        rw [HN.out] at this
        omega
    have hcap := HS.out.cap
    have HLL : Hid (N ≤ l.length ∧ l.length < 2 * N) := hll
    obtain ⟨M, hM⟩ : ∃ M, l.length = M := ⟨_, rfl⟩
    have HM : Hid (l.length = M) := hM
    rw [hM] at hl2 hcap hll
    rw [hM]
    clear hM
    by_cases hlt : k < most - 1
    · have hlti : (k : Int) < (most : Int) - 1 := by omega
      have hwl := HS.out.lev.wt
      have hwl2 : wtL l < 4611686018427387904 := by
        have : (k + 1) * wtL S ≤ 15 * wtL S := Nat.mul_le_mul_right _ (by omega)
        omega
      have hp := fun (_ : Unit) => pairs_ok l L n b' o' c' wr HS.out.row HS.out.laid (by have := HS.out.bel.size; omega) HS.out.lt (by rw [HM.out]; exact hcap.1) (by rw [HM.out]; omega) hcap.2 hwl2
      rw [HM.out] at hp
      have HP : Hid _ := hp
      clear hp hwl hwl2
      go_wp2_with fail
      refine (HP.out ()).mono ?_
      rintro e w1 ⟨v1, m, rfl, hpm, hown, hlm, hb1⟩
      have hml := hpm.length
      rw [HM.out] at hml
      obtain ⟨g, cap, rfl, hg, hgc, hgm, hgr⟩ := row_form hown (by omega)
      have hb1w : Below w.heap.size w w1 := HS.out.bel.trans (hb1.mono HS.out.bel.size)
      have hmg := fun (_ : Unit) => merge_ok S m b off c g 0 cap w1 (HH.out.1.below hb1w hb) hgr (by have := hb1w.size; omega) hg (by rw [HN.out]; exact hc) hgc hc2 hgm (by rw [HN.out]; omega)
      obtain ⟨J, hJ⟩ : ∃ J, m.length = J := ⟨_, rfl⟩
      rw [HN.out, hJ] at hmg
      have HMG : Hid _ := hmg
      have HX : Hid (Pairs l m ∧ m.length = J ∧ (∀ t ∈ m, Laid w1 L n t) ∧ Below w.heap.size w w1) := ⟨hpm, hJ, hlm, hb1w⟩
      rw [hJ]
      clear hmg hpm hown hlm hb1 hml hg hgc hgr hb1w hJ
      go_wp2_with fail
      refine (HMG.out ()).mono ?_
      rintro e w2 ⟨v2, rfl, hown2, hb2⟩
      obtain ⟨g2, cap2, rfl, hg2, hgc2, hgm2, hgr2⟩ := row_form hown2 (by rw [mrg_length, HN.out]; omega)
      have H2 : Hid (BestSt w w2 L n (k + 1) S (mrg S m) g2 0 cap2) := by
        refine ⟨⟨l, m, HS.out.lev, HX.out.1, rfl⟩, hgr2, hg2, ⟨hgc2, hgm2⟩, fun t ht => ?_, HX.out.2.2.2.trans (hb2.mono HX.out.2.2.2.size)⟩
        rcases List.mem_append.1 ((mrg_perm _ _).mem_iff.1 ht) with h | h
        · exact ((HH.out.2 t h).below HX.out.2.2.2).below hb2
        · exact (HX.out.2.2.1 t h).below hb2
      obtain ⟨M2, hM2⟩ : ∃ M, (mrg S m).length = M := ⟨_, rfl⟩
      have HM2 : Hid ((mrg S m).length = M2) := hM2
      rw [hM2]
      clear hown2 hb2 hg2 hgc2 hgr2 hM2
      go_wp2
      exact ⟨⟨k + 1, g2, 0, cap2, mrg S m, by go_num, by omega, by rw [HM2.out], H2⟩, by simp [intOf]; omega⟩
    · have hlti : ¬ (k : Int) < (most : Int) - 1 := by omega
      have hN2 : 2 * N - 2 ≤ M := by omega
      have hcN : 2 * N - 2 ≤ c' := by omega
      obtain ⟨Q, hQ⟩ : ∃ Q, 2 * N - 2 = Q := ⟨_, rfl⟩
      have hQi : 2 * (N : Int) - 2 = (Q : Int) := by omega
      rw [hQ] at hN2 hcN
      have e1 : IntKind.i64.wrap (2 * (N : Int)) = 2 * (N : Int) := by rw [IntKind.wrap_i64]; omega
      have e2 : IntKind.i64.wrap (2 * (N : Int) - 2) = (Q : Int) := by rw [IntKind.wrap_i64]; omega
      go_wp2
      go_ret
      refine ⟨l, b', o', c', ?_, by rw [show most - 1 = k by omega]; exact HS.out.lev, by rw [HM.out, HN.out, hQ]; exact hN2, HS.out.row, HS.out.laid, HS.out.bel⟩
      rw [HN.out, hQ]; rfl
end Go.Proofs.Ytklipommocijaaa
