/- Layer 18: AuditParts walked. -/
import Derived.Test.YtbjlnbcnjknheaaUx
namespace Go.Proofs.Ytbjlnbcnjknheaa
open Go.RowKit Go.Maps
set_option linter.unusedVariables false
set_option maxRecDepth 20000

theorem fbad_ge : ∀ (R P : List Ak) (i : Nat), fbad P R = some i → P.length ≤ i
  | [], P, i, h => by simp [fbad] at h
  | a :: R, P, i, h => by
    by_cases hb : badA P a = true
    · rw [fbad_yes hb] at h
      cases h
      exact Nat.le_refl _
    · rw [fbad_no (by simpa using hb)] at h
      have := fbad_ge R _ i h
      simp at this
      omega
theorem fbad_take : ∀ (R P : List Ak) (k : Nat), fbad P (R.take k) = match fbad P R with | some i => if i < P.length + k then some i else none | none => none
  | [], P, k => by simp [fbad]
  | a :: R, P, 0 => by
    rw [List.take_zero]
    show (none : Option Nat) = _
    cases h : fbad P (a :: R) with
    | none => rfl
    | some i =>
      have := fbad_ge _ _ _ h
      simp only
      rw [if_neg (by omega)]
  | a :: R, P, k + 1 => by
    rw [List.take_succ_cons]
    by_cases hb : badA P a = true
    · rw [fbad_yes hb, fbad_yes hb]
      simp only
      rw [if_pos (by omega)]
    · have hb' : badA P a = false := by simpa using hb
      rw [fbad_no hb', fbad_no hb', fbad_take R (P ++ [a]) k]
      simp only [List.length_append, List.length_singleton]
      cases fbad (P ++ [a]) R with
      | none => rfl
      | some i => simp only; rw [show P.length + 1 + k = P.length + (k + 1) by omega]
theorem ffbad_ge (Z : List Rec) : ∀ (R P : List Fe) (p : Nat × Nat), ffbad Z P R = some p → P.length ≤ p.2 ∧ p.1 ≠ 0
  | [], P, p, h => by simp [ffbad] at h
  | a :: R, P, p, h => by
    by_cases hb : badF Z P a = 0
    · rw [ffbad_no hb] at h
      have := ffbad_ge Z R _ p h
      simp at this
      omega
    · rw [ffbad_yes rfl hb] at h
      cases h
      exact ⟨Nat.le_refl _, hb⟩
theorem ffbad_take (Z : List Rec) : ∀ (R P : List Fe) (k : Nat), ffbad Z P (R.take k) = match ffbad Z P R with | some p => if p.2 < P.length + k then some p else none | none => none
  | [], P, k => by simp [ffbad]
  | a :: R, P, 0 => by
    rw [List.take_zero]
    show (none : Option (Nat × Nat)) = _
    cases h : ffbad Z P (a :: R) with
    | none => rfl
    | some p =>
      have := (ffbad_ge Z _ _ _ h).1
      simp only
      rw [if_neg (by omega)]
  | a :: R, P, k + 1 => by
    rw [List.take_succ_cons]
    by_cases hb : badF Z P a = 0
    · rw [ffbad_no hb, ffbad_no hb, ffbad_take Z R (P ++ [a]) k]
      simp only [List.length_append, List.length_singleton]
      cases ffbad Z (P ++ [a]) R with
      | none => rfl
      | some p => simp only; rw [show P.length + 1 + k = P.length + (k + 1) by omega]
    · rw [ffbad_yes rfl hb, ffbad_yes rfl hb]
      simp only
      rw [if_pos (by omega)]
/-- What the whole tells, and what each beginning tells. -/
def Beg (e i : Int) (K : Nat) (f j : Int) : Prop := (e = 0 ∧ f = 0 ∧ j = 0) ∨ (e ≠ 0 ∧ (K : Int) ≤ i ∧ f = 0 ∧ j = 0) ∨ (e ≠ 0 ∧ i < (K : Int) ∧ f = e ∧ j = i)
theorem begA (L : List Ak) : ∃ e i : Int, resA (fbad [] L) = .tuple #[.int .i64 e, .int .i64 i] ∧ ∀ K, ∃ f j : Int, resA (fbad [] (L.take K)) = .tuple #[.int .i64 f, .int .i64 j] ∧ Beg e i K f j := by
  cases h : fbad [] L with
  | none =>
    refine ⟨0, 0, rfl, fun K => ⟨0, 0, ?_, .inl ⟨rfl, rfl, rfl⟩⟩⟩
    rw [fbad_take, h]; rfl
  | some n =>
    refine ⟨110, n, rfl, fun K => ?_⟩
    rw [fbad_take, h]
    simp only [List.length_nil, Nat.zero_add]
    by_cases hk : n < K
    · rw [if_pos hk]; exact ⟨110, n, rfl, .inr (.inr ⟨by omega, by omega, rfl, rfl⟩)⟩
    · rw [if_neg hk]; exact ⟨0, 0, rfl, .inr (.inl ⟨by omega, by omega, rfl, rfl⟩)⟩
theorem begF (Z : List Rec) (L : List Fe) : ∃ e i : Int, resF (ffbad Z [] L) = .tuple #[.int .i64 e, .int .i64 i] ∧ ∀ K, ∃ f j : Int, resF (ffbad Z [] (L.take K)) = .tuple #[.int .i64 f, .int .i64 j] ∧ Beg e i K f j := by
  cases h : ffbad Z [] L with
  | none =>
    refine ⟨0, 0, rfl, fun K => ⟨0, 0, ?_, .inl ⟨rfl, rfl, rfl⟩⟩⟩
    rw [ffbad_take, h]; rfl
  | some p =>
    obtain ⟨e, n⟩ := p
    have he : e ≠ 0 := (ffbad_ge Z _ _ _ h).2
    refine ⟨e, n, rfl, fun K => ?_⟩
    rw [ffbad_take, h]
    simp only [List.length_nil, Nat.zero_add]
    by_cases hk : n < K
    · rw [if_pos hk]; exact ⟨e, n, rfl, .inr (.inr ⟨by omega, by omega, rfl, rfl⟩)⟩
    · rw [if_neg hk]; exact ⟨0, 0, rfl, .inr (.inl ⟨by omega, by omega, rfl, rfl⟩)⟩
theorem fsum_take : ∀ (L : List Fe) (k : Nat), fsum (L.take k) ≤ fsum L
  | [], k => by simp [fsum]
  | f :: L, 0 => by simp [fsum]
  | f :: L, k + 1 => by
    have := fsum_take L k
    simp only [List.take_succ_cons, fsum]
    omega
set_option maxHeartbeats 4000000 in
theorem auditParts_walk (aA : Option Addr) (capA : Nat) (A : List Ak) (a : Option Addr) (cap : Nat) (L : List Fe) (b : Option Addr) (capS : Nat) (S : List Sd) (w : World) (hA : AIn w aA A) (hAok : AOk A) (hAl : A.length ≤ 1048576) (hAc : A.length ≤ capA) (hin : FIn w a L) (hsin : SIn w b S) (hok : FOk L) (hsok : SOk S) (hlen : L.length ≤ 1048576) (hlc : L.length ≤ cap) (hlenS : S.length ≤ 1048576) (hsum : fsum L ≤ 4611686018427387904) (hsumS : ssum S ≤ 4611686018427387904) :
    Calls Try.prog 6 #[.slice aA A.length capA, .slice a L.length cap, .slice b S.length capS] w fun e w' => e = .returned (.bool true) ∧ Below w.heap.size w w' := by
  have H0 : Hid (∀ W, Below w.heap.size w W → Calls Try.prog 11 #[.slice b S.length capS] W fun e w' => ∃ v, e = .returned v ∧ WS W w' v S) := fun W hW => words_ok b capS S W (hsin.below hW (Nat.le_refl _)) hlenS
  obtain ⟨e, i, hr, hbeg⟩ := begA A
  obtain ⟨e2, i2, hr2, hbeg2⟩ := begF (zeros S) L
  have H1 : Hid (Calls Try.prog 7 #[.slice aA A.length capA] w fun e' w' => e' = .returned (.tuple #[.int .i64 e, .int .i64 i]) ∧ Below w.heap.size w w') := by
    rw [← hr]; exact acks_ok aA capA A w hA hAok (by omega)
  have H2 : Hid (∀ K W, K ≤ A.length → Below w.heap.size w W → ∃ f j : Int, Beg e i K f j ∧ Calls Try.prog 7 #[.slice aA K capA] W fun e' w' => e' = .returned (.tuple #[.int .i64 f, .int .i64 j]) ∧ Below W.heap.size W w') := fun K W hK hW => by
    obtain ⟨f, j, hf, hb⟩ := hbeg K
    refine ⟨f, j, hb, ?_⟩
    rw [← hf]
    have := acks_ok aA capA (A.take K) W ((hA.below hW (Nat.le_refl _)).take K) (fun x hx => hAok x (List.mem_of_mem_take hx)) (by rw [List.length_take]; omega)
    rw [List.length_take, Nat.min_eq_left hK] at this
    exact this
  have H3 : Hid (∀ W v c, Below w.heap.size w W → SIn W v S → Calls Try.prog 10 #[.slice a L.length cap, .slice v S.length c] W fun e' w' => e' = .returned (.tuple #[.int .i64 e2, .int .i64 i2]) ∧ Below W.heap.size W w') := fun W v c hW hv => by
    rw [← hr2]; exact fetches_ok a cap L v c S W (hin.below hW (Nat.le_refl _)) hv hok hsok (by omega) (by omega) hsum hsumS
  have H4 : Hid (∀ K W v c, K ≤ L.length → Below w.heap.size w W → SIn W v S → ∃ f j : Int, Beg e2 i2 K f j ∧ Calls Try.prog 10 #[.slice a K cap, .slice v S.length c] W fun e' w' => e' = .returned (.tuple #[.int .i64 f, .int .i64 j]) ∧ Below W.heap.size W w') := fun K W v c hK hW hv => by
    obtain ⟨f, j, hf, hb⟩ := hbeg2 K
    refine ⟨f, j, hb, ?_⟩
    rw [← hf]
    have h1 := fsum_take L K
    have := fetches_ok a cap (L.take K) v c S W ((hin.below hW (Nat.le_refl _)).take K) hv (fun x hx => hok x (List.mem_of_mem_take hx)) hsok (by rw [List.length_take]; omega) (by omega) (by omega) hsumS
    rw [List.length_take, Nat.min_eq_left hK] at this
    exact this
  have H5 : Hid (∀ W, Calls Try.prog 9 #[] W fun e w' => e = .returned (.bool true) ∧ Below W.heap.size W w') := awake18
  obtain ⟨al, hal⟩ : ∃ al, A.length = al := ⟨_, rfl⟩
  obtain ⟨len, hl⟩ : ∃ len, L.length = len := ⟨_, rfl⟩
  obtain ⟨ls, hls⟩ : ∃ ls, S.length = ls := ⟨_, rfl⟩
  have HLS : Hid (S.length = ls) := hls
  rw [hal] at H1 H2 hAl hAc ⊢
  rw [hl] at H3 H4 hlen hlc ⊢
  rw [hls] at H0 H3 H4 ⊢
  clear hA hAok hin hok hr hr2 hbeg hbeg2 hal hl hsin hsok hlenS hsum hsumS hls
  go_enter Try.func6, Try.ntmps6
  go_wp2_with fail
  refine H1.out.mono ?_
  rintro e1 w1 ⟨rfl, hb1⟩
  have HB1 : Hid (Below w.heap.size w w1) := hb1
  clear hb1
  go_wp2_with fail
  go_loopw [9] (fun k wr => ∃ K : Nat, k = .int .i64 (K : Nat) ∧ K ≤ al + 1 ∧ Below w.heap.size w wr) (fun k _ => al + 1 - (intOf k).toNat)
  case atStart => exact ⟨0, rfl, by omega, HB1.out⟩
  case round =>
    obtain ⟨K, rfl, hK, hB⟩ := hrel
    have HB : Hid (Below w.heap.size w wr) := hB
    have hwr : w.heap.size ≤ wr.heap.size := hB.size
    clear hB
    by_cases hlt : K ≤ al
    · obtain ⟨f, j, hbg, hcl⟩ := H2.out K wr hlt HB.out
      have HC : Hid (Calls Try.prog 7 #[.slice aA K capA] wr fun e' w' => e' = .returned (.tuple #[.int .i64 f, .int .i64 j]) ∧ Below wr.heap.size wr w') := hcl
      have HBG : Hid (Beg e i K f j) := hbg
      have hkc : K ≤ capA := by omega
      clear hcl
      go_wp2_with fail
      refine HC.out.mono ?_
      rintro e1 w2 ⟨rfl, hb2⟩
      have HB2 : Hid (Below w.heap.size w w2) := HB.out.trans (hb2.mono hwr)
      clear hb2 HC HBG
      rcases hbg with ⟨he, rfl, rfl⟩ | ⟨he, hk, rfl, rfl⟩ | ⟨he, hk, hf, hj⟩
      · have q1 : (e == 0) = true := by rw [he]; rfl
        have q2 : (e != 0) = false := by rw [he]; rfl
        clear he
        go_wp2_with fail
        exact ⟨⟨K + 1, by go_num, by omega, HB2.out⟩, by simp [intOf]; omega⟩
      · have q1 : (e == 0) = false := by simpa using he
        have q2 : (e != 0) = true := by simpa using he
        have q3 : decide ((K : Int) ≤ i) = true := decide_eq_true hk
        have q4 : decide (i < (K : Int)) = false := decide_eq_false (by omega)
        clear he
        go_wp2_with fail
        exact ⟨⟨K + 1, by go_num, by omega, HB2.out⟩, by simp [intOf]; omega⟩
      · have hf' := hf.symm
        have hj' := hj.symm
        subst hf' hj'
        have q1 : (e == 0) = false := by simpa using he
        have q2 : (e != 0) = true := by simpa using he
        have q3 : decide ((K : Int) ≤ i) = false := decide_eq_false (by omega)
        have q4 : decide (i < (K : Int)) = true := decide_eq_true hk
        clear he
        go_wp2_with fail
        exact ⟨⟨K + 1, by go_num, by omega, HB2.out⟩, by simp [intOf]; omega⟩
    · have HWD : Hid (Calls Try.prog 11 #[.slice b ls capS] wr fun e w' => ∃ v, e = .returned v ∧ WS wr w' v S) := H0.out wr HB.out
      go_wp2_with fail
      refine HWD.out.mono ?_
      rintro e1 w2 ⟨v, rfl, hW⟩
      obtain ⟨va, vc, rfl⟩ := hW.form
      have HB2 : Hid (Below w.heap.size w w2 ∧ SIn w2 va S) := ⟨HB.out.trans (hW.bel.mono hwr), hW.sin⟩
      rw [HLS.out]
      clear hW HWD
      go_wp2_with fail
      refine (H3.out _ _ _ HB2.out.1 HB2.out.2).mono ?_
      rintro e1 w3 ⟨rfl, hb3⟩
      have HB3 : Hid (Below w.heap.size w w3 ∧ SIn w3 va S) := ⟨HB2.out.1.trans (hb3.mono HB2.out.1.size), HB2.out.2.below hb3 (Nat.le_refl _)⟩
      clear hb3
      go_wp2_with fail
      go_loopw [13] (fun k wr => ∃ K : Nat, k = .int .i64 (K : Nat) ∧ K ≤ len + 1 ∧ Below w.heap.size w wr ∧ SIn wr va S) (fun k _ => len + 1 - (intOf k).toNat)
      case atStart => exact ⟨0, rfl, by omega, HB3.out.1, HB3.out.2⟩
      case round =>
        obtain ⟨J, rfl, hJ, hB, hSI⟩ := hrel
        have HBI : Hid (Below w.heap.size w wr ∧ SIn wr va S) := ⟨hB, hSI⟩
        have hwr2 : w.heap.size ≤ wr.heap.size := hB.size
        clear hB hSI
        by_cases hlt2 : J ≤ len
        · obtain ⟨f, j, hbg, hcl⟩ := H4.out J wr va vc hlt2 HBI.out.1 HBI.out.2
          have HC : Hid (Calls Try.prog 10 #[.slice a J cap, .slice va ls vc] wr fun e' w' => e' = .returned (.tuple #[.int .i64 f, .int .i64 j]) ∧ Below wr.heap.size wr w') := hcl
          have hkc : J ≤ cap := by omega
          clear hcl
          go_wp2_with fail
          refine HC.out.mono ?_
          rintro e1 w4 ⟨rfl, hb4⟩
          have HB4 : Hid (Below w.heap.size w w4 ∧ SIn w4 va S) := ⟨HBI.out.1.trans (hb4.mono hwr2), HBI.out.2.below hb4 (Nat.le_refl _)⟩
          clear hb4 HC
          rcases hbg with ⟨he, rfl, rfl⟩ | ⟨he, hk, rfl, rfl⟩ | ⟨he, hk, hf, hj⟩
          · have q1 : (e2 == 0) = true := by rw [he]; rfl
            have q2 : (e2 != 0) = false := by rw [he]; rfl
            clear he
            go_wp2_with fail
            exact ⟨⟨J + 1, by go_num, by omega, HB4.out.1, HB4.out.2⟩, by simp [intOf]; omega⟩
          · have q1 : (e2 == 0) = false := by simpa using he
            have q2 : (e2 != 0) = true := by simpa using he
            have q3 : decide ((J : Int) ≤ i2) = true := decide_eq_true hk
            have q4 : decide (i2 < (J : Int)) = false := decide_eq_false (by omega)
            clear he
            go_wp2_with fail
            exact ⟨⟨J + 1, by go_num, by omega, HB4.out.1, HB4.out.2⟩, by simp [intOf]; omega⟩
          · have hf' := hf.symm
            have hj' := hj.symm
            subst hf' hj'
            have q1 : (e2 == 0) = false := by simpa using he
            have q2 : (e2 != 0) = true := by simpa using he
            have q3 : decide ((J : Int) ≤ i2) = false := decide_eq_false (by omega)
            have q4 : decide (i2 < (J : Int)) = true := decide_eq_true hk
            clear he
            go_wp2_with fail
            exact ⟨⟨J + 1, by go_num, by omega, HB4.out.1, HB4.out.2⟩, by simp [intOf]; omega⟩
        · go_wp2_with fail
          refine (H5.out _).mono ?_
          rintro e1 w5 ⟨rfl, hb5⟩
          have HB5 : Hid (Below w.heap.size w w5) := HBI.out.1.trans (hb5.mono hwr2)
          clear hb5
          go_wp2_with fail
          go_ret
          exact ⟨rfl, HB5.out⟩
end Go.Proofs.Ytbjlnbcnjknheaa
