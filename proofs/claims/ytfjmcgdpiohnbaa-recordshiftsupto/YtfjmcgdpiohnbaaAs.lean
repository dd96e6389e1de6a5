/- The walk of RecordShifts. -/
import Derived.Test.YtfjmcgdpiohnbaaAr
import Derived.Deep.CutRange
namespace Go.Proofs.Ytfjmcgdpiohnbaa
open Go.RowKit
set_option linter.unusedVariables false

theorem and_ffff (x : Int) : ∃ k : Nat, k ≤ 65535 ∧ bits .and .i64 x 65535 = (k : Int) := by
  have h16 : (BitVec.ofInt 64 65535).toNat = 2 ^ 16 - 1 := by decide
  have key : (BitVec.ofInt 64 x &&& BitVec.ofInt 64 65535).toNat = (x % ((2 ^ 64 : Nat) : Int)).toNat % 2 ^ 16 := by
    rw [BitVec.toNat_and, BitVec.toNat_ofInt, h16, Nat.and_two_pow_sub_one_eq_mod]
  have h : bits .and .i64 x 65535 = x % 65536 := by
    show IntKind.i64.wrap ((BitVec.ofInt 64 x &&& BitVec.ofInt 64 65535).toNat : Nat) = x % 65536
    rw [key, IntKind.wrap_i64]
    omega
  exact ⟨(x % 65536).toNat, by omega, by rw [h]; omega⟩
theorem map_shift_len (k : Int) (M : List Rec) : (M.map (shift k)).length = M.length := by simp
theorem rcs_snoc (M : List Rec) (r : Rec) : rcs (M ++ [r]) = rcs M ++ [.int .i64 r.off, .string r.key, .string r.val, .bool r.gone] := by
  rw [rcs_append]; rfl
set_option maxHeartbeats 2000000 in
theorem shifts_walk (a : Option Addr) (cap : Nat) (L : List Rec) (base b_ : Int) (w : World) (hin : RIn w a L) (hsz : Sized L) (hlen : L.length ≤ 1048576) :
    Calls Try.prog 7 #[.slice a L.length cap, .int .i64 base, .int .i64 b_] w fun e w' => e = .returned (.bool true) ∧ Below w.heap.size w w' := by
  obtain ⟨k, hk, hka⟩ := and_ffff b_
  have HB : Hid (∀ W, RIn W a L → Calls Try.prog 9 #[.slice a L.length cap, .int .i64 base] W fun e w' => e = .returned (bytesV L base) ∧ Below W.heap.size W w') := fun W h => bytes_ok a cap L base W h hsz (by omega)
  have HR : Hid (∀ W, RIn W a L → Calls Try.prog 17 #[.slice a L.length cap, .int .i64 base] W fun e w' => e = .returned (.bool (offB base && comes L base)) ∧ Below W.heap.size W w') := fun W h => rise_ok a cap L base W h hsz (by omega)
  have HIN : Hid (RIn w a L) := hin
  have HSZ : Hid (Sized L) := hsz
  by_cases hg : (offB base && comes L base) = true
  · rw [bytesV_good hg] at HB
    rw [Bool.and_eq_true] at hg
    obtain ⟨hg1, hg2⟩ := hg
    obtain ⟨hb0, hb1'⟩ : 0 ≤ base ∧ base < 1099511627776 := by unfold offB at hg1; simpa using hg1
    have hlr := recsL_len base L (comes_mem L base hg2)
    have HG2 : Hid (comes L base = true) := hg2
    by_cases hbig : (549755813888 : Int) < base
    · generalize mk (recsL base L) = z at HB
      obtain ⟨len, hl⟩ : ∃ len, L.length = len := ⟨_, rfl⟩
      rw [hl] at HB hlen ⊢
      clear hl hin HR hsz hlr
      go_enter Try.func7, Try.ntmps7
      go_wp2_with fail
      refine (HB.out _ HIN.out).mono ?_
      rintro e w1 ⟨rfl, hb1⟩
      have HB1 : Hid (Below w.heap.size w w1) := hb1
      clear hb1
      go_wp2_with fail
      refine (awake_ok _).mono ?_
      rintro e w2 ⟨rfl, hb2⟩
      have HB2 : Hid (Below w.heap.size w w2) := HB1.out.trans (hb2.mono HB1.out.size)
      clear hb2
      go_wp2
      go_ret
      exact ⟨rfl, HB2.out⟩
    · have HFIN : Hid ((∀ r ∈ L, r.off ≤ 549755813888) → (∀ W a' c', RIn W a' (L.map (shift k)) → Calls Try.prog 9 #[.slice a' L.length c', .int .i64 (base + k)] W fun e w' => e = .returned (.tuple #[.string (mk (recsL base L)), .int .i64 0]) ∧ Below W.heap.size W w') ∧
          (∀ W, Calls Try.prog 14 #[.string (mk (recsL base L)), .int .i64 (base + k), .int .i64 (L.length : Nat)] W fun e w' => ∃ a c, e = .returned (.tuple #[.slice a L.length c, .int .i64 0]) ∧ RIn w' a (L.map (shift k)) ∧ Below W.heap.size W w')) := by
        intro hall
        have hcs := comes_shift base k L (by omega) (fun r hr => by have := hall r hr; omega) hg2
        have hok : offB (base + k) = true := by unfold offB; simp; omega
        have hml := map_shift_len k L
        refine ⟨fun W a' c' h => ?_, fun W => ?_⟩
        · have h1 := bytes_ok a' c' (L.map (shift k)) (base + k) W h (by
            intro r hr
            simp only [List.mem_map] at hr
            obtain ⟨q, hq, rfl⟩ := hr
            exact hsz q hq) (by rw [hml]; omega)
          rw [bytesV_good (by rw [hok, hcs]; rfl), recsL_shift, hml] at h1
          exact h1
        · have o1 : ofO (recsL base L) (base + k) (L.length : Nat) = some (L.map (shift k)) := by
            unfold ofO
            rw [if_pos ⟨hok, by omega⟩]
            have := ofL_recsL (base + k) (L.map (shift k)) hcs (by omega)
            rw [recsL_shift, hml] at this
            exact this
          have := of_some (recsL base L) (base + k) (L.length : Nat) _ W (by omega) (by omega) o1
          rw [hml] at this
          exact this
      have hms := mk_size (recsL base L)
      have hmz : (mk (recsL base L)).size ≤ 140737488355328 := by omega
      generalize mk (recsL base L) = z at HB HFIN hmz
      obtain ⟨len, hl⟩ : ∃ len, L.length = len := ⟨_, rfl⟩
      rw [hl] at HB HFIN hlen ⊢
      have HL : Hid (L.length = len) := hl
      have HSM : Hid (∀ W a' c' a'' c'', RIn W a' (L.map (shift k)) → RIn W a'' (L.map (shift k)) → Calls Try.prog 16 #[.slice a' len c', .slice a'' len c''] W fun e w' => e = .returned (.bool true) ∧ Below W.heap.size W w') := fun W a' c' a'' c'' h1 h2 => by
        have := same_ok a' a'' c' c'' (L.map (shift k)) W h1 h2 (by rw [map_shift_len]; omega)
        rw [map_shift_len, hl] at this
        exact this
      clear hl hin HR hsz hlr hms
      obtain ⟨i0, hi, hz0, hz1, hz2⟩ := info_split recInfo
      have HI : Hid (Try.prog.info? 28 = some i0 ∧ i0.zero = some (.agg #[.int .i64 0, .string ⟨#[]⟩, .string ⟨#[]⟩, .bool false]) ∧ i0.size = 4 ∧ i0.bytes = 48) := ⟨hi, hz0, hz1, hz2⟩
      clear hi hz0 hz1 hz2
      go_enter Try.func7, Try.ntmps7
      go_wp2_with fail
      refine (HB.out _ HIN.out).mono ?_
      rintro e w1 ⟨rfl, hb1⟩
      have HB1 : Hid (Below w.heap.size w w1) := hb1
      clear hb1
      go_wp2
      go_loopw [10, 11] (fun v i wr => ∃ (V : Value) (M : List Rec), V = v ∧ i = .int .i64 (M.length : Nat) ∧ (∃ T, L = M ++ T) ∧ (∀ r ∈ M, r.off ≤ 549755813888) ∧ Own wr w.heap.size V (M.map (shift k)) ∧ Below w.heap.size w wr) (fun _ i _ => len - (intOf i).toNat)
      case atStart => exact ⟨_, [], rfl, rfl, ⟨L, rfl⟩, (fun r hr => by cases hr), Own.nil _ _, HB1.out⟩
      case round =>
        obtain ⟨V, M, rfl, rfl, ⟨T, hT⟩, hall, hown, hbel⟩ := hrel
        have HALL : Hid (∀ r ∈ M, r.off ≤ 549755813888) := hall
        have HOW : Hid (Own wr w.heap.size V (M.map (shift k))) := hown
        have HBE : Hid (Below w.heap.size w wr) := hbel
        have hsw := hbel.size
        have hin' : RIn wr a L := HIN.out.below hbel (Nat.le_refl _)
        have HIW : Hid (RIn wr a L) := hin'
        cases T with
        | nil =>
          have hM : L = M := by rw [hT, List.append_nil]
          have hML : M.length = len := by have := HL.out; rw [hM] at this; exact this
          have hf := HFIN.out (fun r hr => HALL.out r (by rw [← hM]; exact hr))
          obtain ⟨a', c', hV, hi'⟩ := hown.slice
          rw [map_shift_len, hML] at hV
          rw [← hM] at hi'
          subst hV
          have HF1 : Hid (∀ W a' c', RIn W a' (L.map (shift k)) → Calls Try.prog 9 #[.slice a' len c', .int .i64 (base + k)] W fun e w' => e = .returned (.tuple #[.string z, .int .i64 0]) ∧ Below W.heap.size W w') := hf.1
          have HF2 : Hid (∀ W, Calls Try.prog 14 #[.string z, .int .i64 (base + k), .int .i64 (len : Nat)] W fun e w' => ∃ a c, e = .returned (.tuple #[.slice a len c, .int .i64 0]) ∧ RIn w' a (L.map (shift k)) ∧ Below W.heap.size W w') := hf.2
          have HI1 : Hid (RIn wr a' (L.map (shift k))) := hi'
          clear hf hi' hown hall hbel hin' hT hM
          go_wp2_with fail
          refine (HF1.out _ _ _ HI1.out).mono ?_
          rintro e w2 ⟨rfl, hb2⟩
          have HB2 : Hid (Below w.heap.size w w2) := HBE.out.trans (hb2.mono hsw)
          have HI2 : Hid (RIn w2 a' (L.map (shift k))) := HI1.out.below hb2 (Nat.le_refl _)
          clear hb2
          go_wp2_with fail
          refine (HF2.out _).mono ?_
          rintro e w3 ⟨a2, c2, rfl, hi3, hb3⟩
          have HB3 : Hid (Below w.heap.size w w3) := HB2.out.trans (hb3.mono HB2.out.size)
          have HI3 : Hid (RIn w3 a' (L.map (shift k))) := HI2.out.below hb3 (Nat.le_refl _)
          have HJ3 : Hid (RIn w3 a2 (L.map (shift k))) := hi3
          clear hb3 hi3
          go_wp2_with fail
          refine (HSM.out _ _ _ _ _ HJ3.out HI3.out).mono ?_
          rintro e w4 ⟨rfl, hb4⟩
          have HB4 : Hid (Below w.heap.size w w4) := HB3.out.trans (hb4.mono HB3.out.size)
          clear hb4
          go_wp2_with fail
          refine (awake_ok _).mono ?_
          rintro e w5 ⟨rfl, hb5⟩
          have HB5 : Hid (Below w.heap.size w w5) := HB4.out.trans (hb5.mono HB4.out.size)
          clear hb5
          go_wp2
          go_ret
          exact ⟨rfl, HB5.out⟩
        | cons r T =>
          have hr0 : L[M.length]? = some r := by rw [hT]; simp
          have hlt : M.length < len := by have := HL.out; rw [hT] at this; simp at this; omega
          obtain ⟨sb, so, ha, hsb, c0, c1, c2, c3⟩ := hin' _ _ hr0
          have HT : Hid (L = M ++ r :: T) := hT
          have hro : 0 ≤ r.off := by
            have := comes_mem L base HG2.out r (by rw [hT]; simp)
            have := ((mayB_iff r).1 this).1
            unfold offB at this
            simp at this
            exact this.1
          clear hown hall hbel hin' hT hr0
          obtain ⟨off, key, val, gone⟩ := r
          subst ha
          simp only at c0 c1 c2 c3 hro
          have hBa : Below wr.heap.size wr (wr.alloc (.cells #[.int .i64 off, .string key, .string val, .bool gone] 28)) := (Below.refl _ _).alloc (Nat.le_refl _) _
          have HRB : Hid (RB (wr.alloc (.cells #[.int .i64 off, .string key, .string val, .bool gone] 28)) wr.heap.size off key val gone) := heap_alloc_new _ _
          have HA : Hid (Below wr.heap.size wr (wr.alloc (.cells #[.int .i64 off, .string key, .string val, .bool gone] 28))) := hBa
          clear hBa
          obtain ⟨rb, hrb⟩ : ∃ rb, wr.heap.size = rb := ⟨_, rfl⟩
          rw [hrb] at HRB
          have HS : Hid (wr.heap.size = rb) := hrb
          generalize hWA : (wr.alloc (.cells #[.int .i64 off, .string key, .string val, .bool gone] 28)) = wA at HRB HA
          go_upto_region 10 with fail
          clear hWA
          obtain ⟨d0, d1, d2, d3⟩ := HRB.out.cells
          have df := HRB.out.frozen 0
          by_cases ho : off ≤ 549755813888
          · have hni : ¬ (549755813888 : Int) < off := by omega
            have HR2 : Hid (RB (wA.setCell ⟨rb, 0, none⟩ (.int .i64 (off + k))) rb (off + k) key val gone) := HRB.out.set0 _
            have HA2 : Hid (Below wr.heap.size wr (wA.setCell ⟨rb, 0, none⟩ (.int .i64 (off + k)))) := ⟨HA.out.os, HA.out.tape, HA.out.output, by simpa [World.setCell] using HA.out.size, fun j hj => (Below.heap_setCell _ _ _ _ (by have := HS.out; show j ≠ rb; omega)).trans (HA.out.block j hj)⟩
            generalize hw2 : wA.setCell ⟨rb, 0, none⟩ (.int .i64 (off + k)) = w2 at HR2 HA2
            go_upto_region 13 with fail
            clear hw2 d0 d1 d2 d3 df
            obtain ⟨d0, d1, d2, d3⟩ := HR2.out.cells
            obtain ⟨N, hN⟩ : ∃ N, M.map (shift k) = N := ⟨_, rfl⟩
            have hNl : N.length ≤ 1048576 := by rw [← hN, map_shift_len]; omega
            obtain ⟨y, hy⟩ : ∃ y, off + (k : Int) = y := ⟨_, rfl⟩
            have HNE : Hid (M.map (shift k) = N ∧ off + (k : Int) = y) := ⟨hN, hy⟩
            have hown0 := HOW.out
            rw [hN] at hown0
            have HOW2 : Hid (Own wr w.heap.size V N) := hown0
            rw [hy] at d0
            clear hN hy hown0
            have HOWN : Hid (∀ o, Own (w2.alloc o) w.heap.size V N ∧ w.heap.size ≤ (w2.alloc o).heap.size) := fun o =>
              ⟨(HOW2.out.below HA2.out).below ((Below.refl _ _).alloc (Nat.le_refl _) _), by have := HA2.out.size; simp; omega⟩
            go_wp2_with (at_builtin; refine wpList_append_lies _ rfl _ _ 22 rfl w.heap.size 28 i0 (.agg #[.int .i64 0, .string ⟨#[]⟩, .string ⟨#[]⟩, .bool false]) 4 48 Try.underlying22 HI.out.1 HI.out.2.1 HI.out.2.2.1 HI.out.2.2.2 rfl (by decide) V N.length (rcs N) rfl (HOWN.out _).1 ⟨w2.heap.size, 0, none⟩ 1 1 [.int .i64 y, .string key, .string val, .bool gone] rfl rfl (news4 _ _ _ _ _ _) (one4 _ _ _ _) (by decide) (by unfold maxLen; omega) (by omega) (HOWN.out _).2 _ rfl ?_; intro g cap' w3 hown hgrow hat hgl; have HGR := And.intro hown hgrow; clear hown hgrow hat hgl)
            have HE : Hid (Own w3 w.heap.size (.slice (some ⟨g, 0, none⟩) (N.length + 1) cap') ((M ++ [(⟨off, key, val, gone⟩ : Rec)]).map (shift k)) ∧ Below w.heap.size w w3) := by
              obtain ⟨hown, hgrow⟩ := HGR
              have hW2 : Below wr.heap.size wr (w2.alloc (.cells #[.int .i64 y, .string key, .string val, .bool gone] 28)) := HA2.out.alloc HA2.out.size _
              refine ⟨?_, (HBE.out.trans (hW2.mono hsw)).trans (below_grown (HOWN.out _).1 hgrow (HOWN.out _).2)⟩
              show w3.ownsRow _ _ _ _ _ _
              rw [List.map_append, List.map_cons, List.map_nil, HNE.out.1, rcs_snoc, List.length_append]
              show w3.ownsRow _ _ _ _ _ (rcs N ++ [.int .i64 (off + k), .string key, .string val, .bool gone])
              rw [HNE.out.2]
              exact hown
            clear HGR d0 d1 d2 d3
            go_wp2
            go_roundw
            case rel =>
              refine ⟨_, M ++ [⟨off, key, val, gone⟩], rfl, by simp, ⟨T, by rw [HT.out]; simp⟩, ?_, HE.out.1, HE.out.2⟩
              intro r hr
              rcases List.mem_append.1 hr with hr | hr
              · exact HALL.out r hr
              · simp at hr; subst hr; exact ho
            case measure => simp [intOf]; omega
          · have hni : (549755813888 : Int) < off := by omega
            have HB2 : Hid (Below w.heap.size w wA) := HBE.out.trans (HA.out.mono hsw)
            go_wp2_with fail
            refine (awake_ok _).mono ?_
            rintro e w5 ⟨rfl, hb5⟩
            have HB5 : Hid (Below w.heap.size w w5) := HB2.out.trans (hb5.mono HB2.out.size)
            clear hb5
            go_wp2
            go_ret
            exact ⟨rfl, HB5.out⟩
  · have hg' : (offB base && comes L base) = false := by simpa using hg
    rw [bytesV_bad hg'] at HB
    rw [hg'] at HR
    clear hg hg' hin
    obtain ⟨len, hl⟩ : ∃ len, L.length = len := ⟨_, rfl⟩
    rw [hl] at HB HR hlen ⊢
    clear hl
    go_enter Try.func7, Try.ntmps7
    go_wp2_with fail
    refine (HB.out _ HIN.out).mono ?_
    rintro e w1 ⟨rfl, hb1⟩
    have HB1 : Hid (Below w.heap.size w w1) := hb1
    have HI1 : Hid (RIn w1 a L) := HIN.out.below hb1 (Nat.le_refl _)
    clear hb1
    go_wp2_with fail
    refine (HR.out _ HI1.out).mono ?_
    rintro e w2 ⟨rfl, hb2⟩
    have HB2 : Hid (Below w.heap.size w w2) := HB1.out.trans (hb2.mono HB1.out.size)
    clear hb2
    go_wp2_with fail
    refine (awake_ok _).mono ?_
    rintro e w3 ⟨rfl, hb3⟩
    have HB3 : Hid (Below w.heap.size w w3) := HB2.out.trans (hb3.mono HB2.out.size)
    clear hb3
    go_wp2
    go_ret
    exact ⟨rfl, HB3.out⟩
end Go.Proofs.Ytfjmcgdpiohnbaa
