/- sum: what a hasher tells. -/
import Derived.Test.YtofjkopfldgkcabSg
namespace Go.Proofs.Ytofjkopfldgkcab
open Go.RowKit
set_option linter.unusedVariables false

theorem hstep_int (p n q y z : Nat) : ∃ u r : Nat, ((y : Int) + (z : Int) * (p : Nat) % 4294967296) % 4294967296 = (u : Int) ∧ u < 4294967296 ∧ rot n u = r ∧ (r : Int) * (q : Nat) % 4294967296 = (hstep p n q y z : Nat) := by
  refine ⟨(y + hmul z p) % 4294967296, _, ?_, Nat.mod_lt _ (by omega), rfl, ?_⟩
  · rw [hmul_bits]; omega
  · rw [hmul_bits]; rfl
theorem wd_left (l : List Nat) (L : Nat → Nat) (j : Nat) (hL : ∀ k, k < l.length % 16 → L k = l.getD (16 * (l.length / 16) + k) 0) (hj : 4 * j + 4 ≤ l.length % 16) :
    wdN (fun k => L (4 * j + k)) 4 = wd l (l.length / 16 * 16 + 4 * j) := by
  have e : ∀ k, k < 4 → L (4 * j + k) = l.getD (l.length / 16 * 16 + 4 * j + k) 0 := fun k hk => by
    rw [hL _ (by omega)]
    congr 1
    omega
  rw [wdN_four]
  unfold wd
  rw [e 0 (by omega), e 1 (by omega), e 2 (by omega), e 3 (by omega), Nat.add_zero]
def slLen : Value → Nat
  | .slice _ n _ => n
  | _ => 0
set_option maxRecDepth 20000 in
set_option maxHeartbeats 1000000 in
theorem sum (b : Nat) (p : Value) (l : List Nat) (seed : Nat) (w : World) (h : HS w b p l seed) (hlen : l.length ≤ 4611686018427387904) (hseed : seed < 4294967296) (hl : ∀ x ∈ l, x < 256) :
    Calls Try.prog 11 #[.pointer (some ⟨b, 0, none⟩)] w fun e w' => e = .returned (.int .u32 (hashOf l seed : Nat)) ∧ ∃ k, w' = w.drewN k := by
  obtain ⟨L, hb, hL, hLt⟩ := h
  obtain ⟨n, hn⟩ : ∃ n, l.length = n := ⟨_, rfl⟩
  obtain ⟨r, hr⟩ : ∃ r, l.length % 16 = r := ⟨_, rfl⟩
  have hr16 : r < 16 := by omega
  have h6 := hb.took
  rw [hn] at h6
  have HBG : Hid (∀ k, Calls Try.prog 14 #[.pointer (some ⟨b, 0, none⟩)] (w.drewN k) fun e w' => e = .returned (.int .u32 (hbeg l seed : Nat)) ∧ w' = w.drewN k) := by
    intro k
    unfold hbeg
    by_cases h16 : l.length < 16
    · rw [if_pos h16]
      exact begun_short b p seed _ _ L _ (hb.drewN k) h16
    · rw [if_neg h16]
      have := begun_long b p seed _ _ L _ (hb.drewN k) (by omega) (fun i => lan_lt _ _ _ _ (ini_lt _ _))
      rw [fs_four] at this
      exact this
  obtain ⟨g, hg⟩ : ∃ g, hbeg l seed = g := ⟨_, rfl⟩
  rw [hg] at HBG
  obtain ⟨y0, hy0⟩ : ∃ y0, (g + n) % 4294967296 = y0 := ⟨_, rfl⟩
  have hy0l : y0 < 4294967296 := by omega
  have hyi : ((g : Int) + (n : Int) % 4294967296) % 4294967296 = (y0 : Int) := by omega
  have hyi2 : ((g : Int) + (n : Int)) % 4294967296 = (y0 : Int) := by omega
  have HY0 : Hid (hashOf l seed = spr (hrest l y0)) := by
    show _ = _
    unfold hashOf
    rw [hg, hn, hy0]
  have ht1 : (n : Int).tmod 16 = (r : Int) := by rw [Int.tmod_eq_emod_of_nonneg (by omega)]; omega
  have ht2 : (n : Int) % 16 = (r : Int) := by omega
  have hsl := slice_hm b 7 r (by omega)
  have HX : Hid (HB w b p seed (fun i => lan l (ini seed i) i (l.length / 16)) l.length L ∧ (∀ k, k < l.length % 16 → L k = l.getD (16 * (l.length / 16) + k) 0) ∧ (∀ k, L k < 256) ∧ (∀ x ∈ l, x < 256)) := ⟨hb, hL, hLt, hl⟩
  have HN : Hid (l.length = n ∧ l.length % 16 = r) := ⟨hn, hr⟩
  have hnl : n ≤ 4611686018427387904 := by omega
  clear hb hL hLt hl hn hr hg hy0 hlen
  go_enter Try.func11, Try.ntmps11
  go_wp2
  go_quiet (first | (go_at_call 14; refine Calls.quiet_of_same (HBG.out _)))
  go_wp2
  rw [hyi]
  clear hyi hyi2 HBG hsl ht1 ht2 h6
  have HC : Hid (∀ k i, i < 16 → (w.drewN k).cell? ⟨b, 7 + i, none⟩ = some (.int .u8 (L i : Nat))) := fun k i hi => (HX.out.1.drewN k).left i hi
  go_loop [3, 5] (fun x lf => ∃ (j y c : Nat) (A : Addr), 4 * j ≤ r ∧ c = r - 4 * j ∧ lf = .slice (some A) c c ∧ (0 < c → A = ⟨b, 7 + 4 * j, none⟩) ∧ x = .int .u32 (y : Nat) ∧ y < 4294967296 ∧ y = hws l (l.length / 16 * 16) y0 j) (fun _ lf => slLen lf)
  case atStart => exact ⟨0, y0, r, ⟨b, 7, none⟩, by omega, by omega, rfl, fun _ => rfl, rfl, hy0l, rfl⟩
  case round =>
    obtain ⟨j, y, c, A, hj, hc, rfl, hA, rfl, hyl, hy⟩ := hrel
    have HY : Hid (y = hws l (l.length / 16 * 16) y0 j) := hy
    have HCC : Hid (c = r - 4 * j) := hc
    clear hy
    by_cases hc4 : 4 ≤ c
    · obtain rfl : A = ⟨b, 7 + 4 * j, none⟩ := hA (by omega)
      clear hA hc
      have hword := fun w1 (hw1 : ∀ i, i < 16 → w1.cell? ⟨b, 7 + i, none⟩ = some (.int .u8 (L i : Nat))) => word b (7 + 4 * j) c c (fun k => L (4 * j + k)) w1 hc4 (fun k => HX.out.2.2.1 _) (fun k hk => by
        rw [Nat.add_assoc]; exact hw1 (4 * j + k) (by have := HCC.out; omega))
      obtain ⟨z, hz⟩ : ∃ z, wdN (fun k => L (4 * j + k)) 4 = z := ⟨_, rfl⟩
      obtain ⟨u, q, hu, hul, hq, hqs⟩ := hstep_int 3266489917 17 668265263 y z
      simp only [Int.cast_ofNat_Int] at hu hqs
      obtain ⟨y', hy'⟩ : ∃ y', hstep 3266489917 17 668265263 y z = y' := ⟨_, rfl⟩
      rw [hy'] at hqs
      have HY' : Hid (y' < 4294967296 ∧ y' = hws l (l.length / 16 * 16) y0 (j + 1)) := by
        constructor
        · rw [← hy']; exact hstep_lt _ _ _ _ _
        · simp only [hws]
          rw [← HY.out, ← wd_left l L j HX.out.2.1 (by have := HCC.out; have := HN.out; omega), hz, hy']
      simp only [hz] at hword
      have hrot := fun w : World => rotate u 17 w hul (by omega) (by omega)
      simp only [hq] at hrot
      have HW : Hid _ := hword
      have HRT : Hid _ := hrot
      clear hword hrot hq hz hy'
      go_wp2_with fail
      refine (HW.out _ (fun i hi => HC.out _ i hi)).mono ?_
      rintro e w1 ⟨rfl, hw1⟩
      obtain rfl := hw1.symm
      go_wp2_with fail
      rw [hu]
      refine (HRT.out _).mono ?_
      rintro e w1 ⟨rfl, hw1⟩
      obtain rfl := hw1.symm
      go_wp2
      rw [hqs]
      refine ⟨⟨j + 1, y', c - 4, if c = 4 then ⟨b, 7 + 4 * j, none⟩ else ⟨b, 7 + 4 * j + 4, none⟩, by have := HCC.out; omega, by have := HCC.out; omega, ?_, ?_, rfl, HY'.out.1, HY'.out.2⟩, by simp [slLen]; omega⟩
      · by_cases h4 : c = 4
        · rw [if_pos h4, if_pos h4]
        · rw [if_neg h4, if_neg h4]
      · intro hp
        rw [if_neg (by omega)]
        congr 1
    · have hc0 : ¬ (4 ≤ (c : Int)) := by omega
      have HAA : Hid (0 < c → A = ⟨b, 7 + 4 * j, none⟩) := hA
      clear hA hc
      go_wp2
      go_loop [3, 41] (fun x ix => ∃ (i v : Nat), i ≤ c ∧ ix = .int .i64 i ∧ x = .int .u32 (v : Nat) ∧ v < 4294967296 ∧ v = hbs l (l.length / 4 * 4) y i) (fun _ ix => c - (intOf ix).toNat)
      case atStart => exact ⟨0, y, Nat.zero_le _, rfl, rfl, hyl, rfl⟩
      case round =>
        obtain ⟨i, v, hi, rfl, rfl, hvl, hv⟩ := hrel
        have HV : Hid (v = hbs l (l.length / 4 * 4) y i) := hv
        clear hv
        by_cases hlt : i < c
        · obtain rfl : A = ⟨b, 7 + 4 * j, none⟩ := HAA.out (by omega)
          obtain ⟨z, hz⟩ : ∃ z, L (4 * j + i) = z := ⟨_, rfl⟩
          have hzl : z < 256 := by rw [← hz]; exact HX.out.2.2.1 _
          have hcell : w.cell? ⟨b, 7 + 4 * j + i, none⟩ = some (.int .u8 (z : Nat)) := by
            rw [Nat.add_assoc, ← hz]
            exact HC.out 0 (4 * j + i) (by have := HCC.out; omega)
          obtain ⟨u, q, hu, hul, hq, hqs⟩ := hstep_int 374761393 11 2654435761 v z
          simp only [Int.cast_ofNat_Int] at hu hqs
          obtain ⟨y', hy'⟩ : ∃ y', hstep 374761393 11 2654435761 v z = y' := ⟨_, rfl⟩
          rw [hy'] at hqs
          have HY' : Hid (y' < 4294967296 ∧ y' = hbs l (l.length / 4 * 4) y (i + 1)) := by
            constructor
            · rw [← hy']; exact hstep_lt _ _ _ _ _
            · simp only [hbs]
              have e1 : l.getD (l.length / 4 * 4 + i) 0 = z := by
                rw [← hz, HX.out.2.1 (4 * j + i) (by have := HCC.out; have := HN.out; omega)]
                congr 1
                have := HCC.out
                have := HN.out
                omega
              rw [← HV.out, e1, hy']
          have hrot := fun w : World => rotate u 11 w hul (by omega) (by omega)
          simp only [hq] at hrot
          have HRT : Hid _ := hrot
          have hzm : (z : Int) % 4294967296 = (z : Int) := by omega
          clear hrot hq hy'
          go_wp2_with fail
          refine (HRT.out _).mono ?_
          rintro e w1 ⟨rfl, hw1⟩
          obtain rfl := hw1.symm
          go_wp2
          (try rw [hqs])
          exact ⟨⟨i + 1, y', by omega, by go_num, rfl, HY'.out.1, HY'.out.2⟩, by simp [intOf]; omega⟩
        · obtain rfl : i = c := by omega
          have HE : Hid (spr v = hashOf l seed) := by
            show _ = _
            rw [HY0.out]
            unfold hrest
            have := HCC.out
            have := HN.out
            rw [show l.length % 16 / 4 = j by omega, show l.length % 4 = i by omega, ← HY.out, ← HV.out]
          go_wp2_with fail
          refine (spread v _ hvl).mono ?_
          rintro e w1 ⟨rfl, hw1⟩
          obtain rfl := hw1.symm
          go_wp2
          go_ret
          exact ⟨ret_int (by rw [HE.out]), _, rfl⟩
end Go.Proofs.Ytofjkopfldgkcab
