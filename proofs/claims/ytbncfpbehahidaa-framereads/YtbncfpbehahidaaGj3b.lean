/- Layer 7: pieces in turn. -/
import Derived.Test.YtbncfpbehahidaaGj3a
namespace Go.Proofs.Ytbncfpbehahidaa
open Go.RowKit
set_option linter.unusedVariables false
set_option maxRecDepth 20000

/-- Pieces: the function, when it may be called, what it does. -/
abbrev Piece := Nat × (FD → Prop) × (FD → Nat × FD)
def turnF : List Piece → FD → Nat × FD
  | [], d => (0, d)
  | p :: ps, d => if (p.2.2 d).1 = 0 then turnF ps (p.2.2 d).2 else p.2.2 d
def goes : List Piece → FD → Prop
  | [], _ => True
  | p :: ps, d => p.2.1 d ∧ ((p.2.2 d).1 = 0 → goes ps (p.2.2 d).2)
/-- The functions that are pieces. -/
def PF (f : Nat) : Prop :=
  f = 15 ∨ f = 16 ∨ f = 17 ∨ f = 18 ∨ f = 19 ∨ f = 20 ∨ f = 21 ∨ f = 22 ∨
  f = 35 ∨ f = 36 ∨ f = 37 ∨ f = 38 ∨ f = 39
def pcv (u f : Nat) : Value := .func (.func f) #[.pointer (some ⟨u, 0, none⟩)] #[]
def pcs (u : Nat) (ps : List Piece) : Array Value := (ps.map fun p => pcv u p.1).toArray
theorem drop_cons {ps : List Piece} {i : Nat} (h : i < ps.length) : ps.drop i = ps[i] :: ps.drop (i + 1) := (List.drop_eq_getElem_cons h)
set_option maxHeartbeats 4000000 in
theorem inTurn_ok (ps : List Piece) (hps : ∀ p ∈ ps, POK p.1 p.2.1 p.2.2 ∧ PF p.1) (w : World) (B u a : Nat) (d : FD) (v : Value) (h : FU w B u d v) (ha : w.heap[a]? = some (.cells (pcs u ps) 53 (0, 0))) (hl : ps.length ≤ 8) (hg : goes ps d) :
    Calls Try.prog 14 #[.slice (some ⟨a, 0, none⟩) ps.length ps.length] w fun e w' => Ends B u w (turnF ps d).2 (.int .i64 ((turnF ps d).1 : Nat)) e w' := by
  obtain ⟨r, hr⟩ : ∃ r, turnF ps d = r := ⟨_, rfl⟩
  obtain ⟨n, hn⟩ : ∃ n, ps.length = n := ⟨_, rfl⟩
  rw [hr, hn]
  rw [hn] at hl
  have H0 : Hid (∃ di vi, FU w B u di vi ∧ FF B w w ∧ goes (ps.drop 0) di ∧ turnF (ps.drop 0) di = r) := ⟨d, v, h, FF.refl _ _, hg, hr⟩
  have HA : Hid (∀ W, FF B w W → ∀ i, (hi : i < ps.length) → W.cell? ⟨a, i, none⟩ = some (pcv u (ps[i]'hi).1)) := fun W hW i hi => by
    have hb := (hW.2 a _ _ _ ha (by decide) (by decide)).trans ha
    have h2 : (pcs u ps)[i]? = some (pcv u (ps[i]'hi).1) := by simp [pcs, hi]
    simp [World.cell?, hb, h2]
  have HP : Hid (∀ p ∈ ps, POK p.1 p.2.1 p.2.2 ∧ PF p.1) := hps
  have HN : Hid (ps.length = n) := hn
  clear hr h ha hg hps hn
  go_enter Try.func14, Try.ntmps14
  go_wp2_with fail
  go_loopw [4, 5, 8] (fun v4 v5 v8 wr => ∃ i : Nat, v8 = .int .i64 (i : Nat) ∧ i ≤ n ∧ Hid (∃ di vi, FU wr B u di vi ∧ FF B w wr ∧ goes (ps.drop i) di ∧ turnF (ps.drop i) di = r)) (fun _ _ v8 _ => n - (intOf v8).toNat)
  case atStart => exact ⟨0, rfl, Nat.zero_le _, H0.out⟩
  case round =>
    obtain ⟨i, rfl, hi, HS⟩ := hrel
    by_cases hlt : i < n
    · have hlti : (i : Int) < (n : Int) := by omega
      obtain ⟨di, vi, hU, hF, hgo, htu⟩ := HS.out
      have hil : i < ps.length := by rw [HN.out]; exact hlt
      obtain ⟨p, hp⟩ : ∃ p, ps[i] = p := ⟨_, rfl⟩
      have c := HA.out wr hF i hil
      have hpp := HP.out p (by rw [← hp]; exact List.getElem_mem hil)
      rw [drop_cons hil, hp] at hgo htu
      rw [hp] at c
      obtain ⟨f, P, g⟩ := p
      unfold goes at hgo
      unfold turnF at htu
      simp only at hgo htu c hpp
      obtain ⟨hpok, hpf⟩ := hpp
      have HQ : Hid (∀ _ : Unit, Calls Try.prog f #[.pointer (some ⟨u, 0, none⟩)] wr fun e w' => Ends B u wr (g di).2 (.int .i64 ((g di).1 : Nat)) e w') := fun _ => hpok wr B u di vi hU hgo.1
      have HE : Hid (FF B w wr ∧ ((g di).1 = 0 → goes (ps.drop (i + 1)) (g di).2) ∧ (if (g di).1 = 0 then turnF (ps.drop (i + 1)) (g di).2 else g di) = r) := ⟨hF, hgo.2, htu⟩
      obtain ⟨q, hq⟩ : ∃ q, g di = q := ⟨_, rfl⟩
      rw [hq] at HQ HE
      obtain ⟨q1, q2⟩ := q
      simp only at HQ HE
      unfold pcv at c
      clear hU hF hgo htu hpok hq hp HS hil
      by_cases hq0 : q1 = 0
      · obtain rfl : q1 = 0 := hq0
        have HE2 : Hid (FF B w wr ∧ goes (ps.drop (i + 1)) q2 ∧ turnF (ps.drop (i + 1)) q2 = r) := ⟨HE.out.1, HE.out.2.1 rfl, by have h := HE.out.2.2; rw [if_pos rfl] at h; exact h⟩
        clear HE
        rcases hpf with rfl | rfl | rfl | rfl | rfl | rfl | rfl | rfl | rfl | rfl | rfl | rfl | rfl
        all_goals
          go_wp2_with fail
          refine (HQ.out ()).mono ?_
          rintro e w1 ⟨rfl, ⟨v1, hU1⟩, hF1⟩
          have HS : Hid (∃ di vi, FU w1 B u di vi ∧ FF B w w1 ∧ goes (ps.drop (i + 1)) di ∧ turnF (ps.drop (i + 1)) di = r) := ⟨q2, v1, hU1, HE2.out.1.trans hF1, HE2.out.2⟩
          clear hU1 hF1
          go_wp2
          go_roundw
          case rel => exact ⟨i + 1, by go_num, by omega, HS⟩
          case measure => simp [intOf]; omega
      · have hne : ((q1 : Int) != 0) = true := by simp; exact hq0
        have HE2 : Hid (FF B w wr ∧ (q1, q2) = r) := ⟨HE.out.1, by have h := HE.out.2.2; rw [if_neg hq0] at h; exact h⟩
        clear HE hq0
        rcases hpf with rfl | rfl | rfl | rfl | rfl | rfl | rfl | rfl | rfl | rfl | rfl | rfl | rfl
        all_goals
          go_wp2_with fail
          refine (HQ.out ()).mono ?_
          rintro e w1 ⟨rfl, hU1, hF1⟩
          go_wp2
          go_ret
          rw [← HE2.out.2]
          exact ⟨rfl, hU1, HE2.out.1.trans hF1⟩
    · have hlti : ¬ (i : Int) < (n : Int) := by omega
      obtain ⟨di, vi, hU, hF, hgo, htu⟩ := HS.out
      rw [List.drop_eq_nil_of_le (by rw [HN.out]; omega)] at htu
      have HE : Hid (FU wr B u di vi ∧ FF B w wr ∧ (0, di) = r) := ⟨hU, hF, htu⟩
      clear hU hF hgo htu HS
      go_wp2
      go_ret
      rw [← HE.out.2.2]
      exact ⟨rfl, ⟨vi, HE.out.1⟩, HE.out.2.1⟩
end Go.Proofs.Ytbncfpbehahidaa
