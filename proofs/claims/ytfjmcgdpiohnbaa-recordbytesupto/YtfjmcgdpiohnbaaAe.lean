/- The bytes of records: Bytes. -/
import Derived.Test.YtfjmcgdpiohnbaaAd
namespace Go.Proofs.Ytfjmcgdpiohnbaa
open Go.RowKit
set_option linter.unusedVariables false

theorem bytes_bad (a : Option Addr) (len cap : Nat) (base : Int) (w : World) (h : offB base = false) :
    Calls Try.prog 9 #[.slice a len cap, .int .i64 base] w fun e w' => e = .returned (.tuple #[.string ⟨#[]⟩, .int .i64 90]) ∧ Below w.heap.size w w' := by
  have HO := isOffset_ok base
  rw [h] at HO
  go_enter Try.func9, Try.ntmps9
  go_wp2_with (go_at_call 18; refine (HO _).mono ?_; rintro e w' ⟨rfl, rfl⟩)
  go_ret2
  exact ⟨rfl, Below.refl _ _⟩
/-- What a round keeps. -/
structure BR (w wr : World) (b : Nat) (a : Option Addr) (base : Int) (L M : List Rec) (low : Int) : Prop where
  bs : BS wr w.heap.size b (recsL base M)
  bel : Below w.heap.size w wr
  lt : w.heap.size ≤ wr.heap.size
  low : low = lowB M base
  may : comes M base = true
  pre : ∃ T, L = M ++ T
theorem lowB_ge (M : List Rec) (base : Int) (h : comes M base = true) : base ≤ lowB M base := by
  induction M generalizing base with
  | nil => exact Int.le_refl _
  | cons r M ih =>
    simp only [comes, Bool.and_eq_true, decide_eq_true_eq] at h
    have := ih (r.off + 1) h.2
    simp only [lowB]
    omega
set_option maxHeartbeats 2000000 in
theorem bytes_walk (a : Option Addr) (cap : Nat) (L : List Rec) (base : Int) (w : World) (hb : offB base = true) (hin : RIn w a L) (hsz : Sized L) (hlen : 4190 * L.length + 5000 ≤ 140737488355328) :
    Calls Try.prog 9 #[.slice a L.length cap, .int .i64 base] w fun e w' => e = .returned (bytesV L base) ∧ Below w.heap.size w w' := by
  have HVT : Hid (comes L base = true → bytesV L base = .tuple #[.string (mk (recsL base L)), .int .i64 0]) := fun h => by unfold bytesV; rw [hb, h]; rfl
  have HVF : Hid (comes L base = false → bytesV L base = .tuple #[.string ⟨#[]⟩, .int .i64 90]) := fun h => by unfold bytesV; rw [hb, h]; rfl
  obtain ⟨bv, hbv⟩ : ∃ bv, bytesV L base = bv := ⟨_, rfl⟩
  rw [hbv] at HVT HVF ⊢
  clear hbv
  have HO := isOffset_ok base
  rw [hb] at HO
  have HIN : Hid (RIn w a L) := hin
  have HSZ : Hid (Sized L) := hsz
  have HST : Hid (BR w (w.alloc (.cells #[.pointer none, .slice none 0 0] 41)) w.heap.size a base L [] base) :=
    ⟨BS.new w, (Below.refl _ _).alloc (Nat.le_refl _) _, by simp, rfl, rfl, L, rfl⟩
  obtain ⟨len, hl⟩ : ∃ len, L.length = len := ⟨_, rfl⟩
  rw [hl] at hlen ⊢
  have HL : Hid (L.length = len) := hl
  obtain ⟨hb0, hb1⟩ : 0 ≤ base ∧ base < 1099511627776 := by unfold offB at hb; simpa using hb
  clear hin hsz hl
  go_enter Try.func9, Try.ntmps9
  go_wp2_with (go_at_call 18; refine (HO _).mono ?_; rintro e w' ⟨rfl, rfl⟩)
  go_loopw [7, 16] (fun lw i wr => ∃ (M : List Rec) (low : Int), i = .int .i64 (M.length : Nat) ∧ lw = .int .i64 low ∧ BR w' wr w'.heap.size a base L M low) (fun _ i _ => len - (intOf i).toNat)
  case atStart => exact ⟨[], base, rfl, rfl, HST.out⟩
  case round =>
    obtain ⟨M, low, rfl, rfl, hr⟩ := hrel
    have HR : Hid (BR w' wr w'.heap.size a base L M low) := hr
    have hin' : RIn wr a L := HIN.out.below hr.bel (Nat.le_refl _)
    obtain ⟨T, hT⟩ := hr.pre
    have hltw := hr.bs.lt
    have hsw := hr.lt
    clear hr
    cases T with
    | nil =>
      have hML : M.length = len := by have := HL.out; rw [hT, List.append_nil] at this; exact this
      have hM : L = M := by rw [hT, List.append_nil]
      have h1 : comes L base = true := by rw [hM]; exact HR.out.may
      have h2 : BS wr w'.heap.size w'.heap.size (recsL base L) := by rw [hM]; exact HR.out.bs
      have H1 : Hid (comes L base = true) := h1
      have H2 : Hid (BS wr w'.heap.size w'.heap.size (recsL base L)) := h2
      clear hM h1 h2
      clear hT hin'
      go_wp2_with fail
      refine (Try.Builder_String_any_k _ _ _ _ H2.out hsw).mono ?_
      rintro e w2 ⟨rfl, g1, g2, g3⟩
      have HB : Hid (Below w'.heap.size w' w2) := HR.out.bel.trans g2
      clear g1 g2 g3
      go_wp2
      go_ret2
      exact ⟨by rw [HVT.out H1.out]; rfl, HB.out⟩
    | cons r T =>
      have hr0 : L[M.length]? = some r := by rw [hT]; simp
      have hlt : M.length < len := by have := HL.out; rw [hT] at this; simp at this; omega
      have hrs := HSZ.out r (by rw [hT]; simp)
      obtain ⟨sb, so, rfl, hsb, c0, c1, c2, c3⟩ := hin' _ _ hr0
      obtain ⟨hrk, hrv⟩ := hrs
      have HT : Hid (L = M ++ r :: T) := hT
      clear hT hin' hr0
      obtain ⟨off, key, val, gone⟩ := r
      simp only at c0 c1 c2 c3 hrk hrv
      have HC : Hid (∀ W, Calls Try.prog 19 #[.agg #[.int .i64 off, .string key, .string val, .bool gone], .int .i64 low] W fun e w' => e = .returned (.bool (mayB ⟨off, key, val, gone⟩ && decide (low ≤ off))) ∧ Below W.heap.size W w') := fun W => mayCome_ok off low key val gone W hrk hrv
      have hBa : Below wr.heap.size wr (wr.alloc (.cells #[.int .i64 off, .string key, .string val, .bool gone] 28)) := (Below.refl _ _).alloc (Nat.le_refl _) _
      have HRB : Hid (RB (wr.alloc (.cells #[.int .i64 off, .string key, .string val, .bool gone] 28)) wr.heap.size off key val gone) := heap_alloc_new _ _
      have HBA : Hid (Below w'.heap.size w' (wr.alloc (.cells #[.int .i64 off, .string key, .string val, .bool gone] 28))) := HR.out.bel.trans (hBa.mono hsw)
      have HBS : Hid (BS (wr.alloc (.cells #[.int .i64 off, .string key, .string val, .bool gone] 28)) w'.heap.size w'.heap.size (recsL base M)) := HR.out.bs.below hBa
      clear hBa
      obtain ⟨rb, hrb⟩ : ∃ rb, wr.heap.size = rb := ⟨_, rfl⟩
      have hrl : rb < (wr.alloc (.cells #[.int .i64 off, .string key, .string val, .bool gone] 28)).heap.size := by simp; omega
      rw [hrb] at HRB
      generalize hWA : (wr.alloc (.cells #[.int .i64 off, .string key, .string val, .bool gone] 28)) = wA at HRB HBA HBS hrl
      have hE : comes L base = ((mayB ⟨off, key, val, gone⟩ && decide (low ≤ off)) && comes T (off + 1)) := by
        rw [HT.out, comes_append, HR.out.may, Bool.true_and, ← HR.out.low]; rfl
      have HE : Hid (comes L base = ((mayB ⟨off, key, val, gone⟩ && decide (low ≤ off)) && comes T (off + 1))) := hE
      clear hE
      go_upto_region 8 with fail
      clear hWA
      obtain ⟨d0, d1, d2, d3⟩ := HRB.out.cells
      by_cases hm : (mayB ⟨off, key, val, gone⟩ && decide (low ≤ off)) = true
      · rw [hm] at HC HE
        have HM : Hid (mayB ⟨off, key, val, gone⟩ = true ∧ low ≤ off) := by
          have h2 := hm
          rw [Bool.and_eq_true, decide_eq_true_eq] at h2
          exact h2
        clear hm
        go_wp2_with fail
        refine (HC.out _).mono ?_
        rintro e w1 ⟨rfl, hb1⟩
        have HRB1 : Hid (RB w1 rb off key val gone) := (hb1.block rb hrl).trans HRB.out
        have HB1 : Hid (Below w'.heap.size w' w1) := HBA.out.trans (hb1.mono HBA.out.size)
        have HBS1 : Hid (BS w1 w'.heap.size w'.heap.size (recsL base M)) := HBS.out.below hb1
        clear hb1 d0 d1 d2 d3 HRB HBA HBS
        obtain ⟨d0, d1, d2, d3⟩ := HRB1.out.cells
        have hs1 : w'.heap.size ≤ w1.heap.size := HB1.out.size
        obtain ⟨hm1, hm2⟩ := HM.out
        have hok := (mayB_iff _).1 hm1
        simp only at hok
        obtain ⟨ho1, ho2⟩ : 0 ≤ off ∧ off < 1099511627776 := by have := hok.1; unfold offB at this; simpa using this
        have hlowb : base ≤ low := by
          rw [HR.out.low]
          exact lowB_ge M base HR.out.may
        have hMl : (recsL base M).length + 5000 ≤ 140737488355328 := by
          have := recsL_len base M (comes_mem M base HR.out.may)
          omega
        go_wp2_with fail
        refine (put_ok w'.heap.size w'.heap.size (recsL base M) off base key val gone _ HBS1.out hb0 (by omega) ho2 hok.2.1 hok.2.2.1 hMl hs1).mono ?_
        rintro e w2 ⟨rfl, g1, g2⟩
        have HN : Hid (BR w' w2 w'.heap.size (some ⟨sb, so, none⟩) base L (M ++ [⟨off, key, val, gone⟩]) (off + 1)) :=
          ⟨by rw [recsL_snoc]; exact g1, HB1.out.trans g2.below, Nat.le_trans hs1 g2.size, by rw [lowB_snoc], by
            rw [comes_append, HR.out.may, Bool.true_and, ← HR.out.low]; simp [comes, hm1, hm2], T, by rw [HT.out]; simp⟩
        have d4 := (HRB1.out.kept (show rb ≠ w'.heap.size by omega) g2).cells.1
        clear g1 g2 hMl hok hm1 hm2 d0 d1 d2 d3
        go_wp2
        go_roundw
        case rel => exact ⟨M ++ [⟨off, key, val, gone⟩], off + 1, by simp, rfl, HN.out⟩
        case measure => simp [intOf]; omega
      · have hm' : (mayB ⟨off, key, val, gone⟩ && decide (low ≤ off)) = false := by simpa using hm
        rw [hm'] at HC HE
        clear hm hm'
        go_wp2_with fail
        refine (HC.out _).mono ?_
        rintro e w1 ⟨rfl, hb1⟩
        have HB1 : Hid (Below w'.heap.size w' w1) := HBA.out.trans (hb1.mono HBA.out.size)
        clear hb1
        go_wp2
        go_ret2
        exact ⟨by rw [HVF.out (by rw [HE.out]; rfl)]; rfl, HB1.out⟩
/-- Bytes of whatever records. -/
theorem bytes_ok (a : Option Addr) (cap : Nat) (L : List Rec) (base : Int) (w : World) (hin : RIn w a L) (hsz : Sized L) (hlen : 4190 * L.length + 5000 ≤ 140737488355328) :
    Calls Try.prog 9 #[.slice a L.length cap, .int .i64 base] w fun e w' => e = .returned (bytesV L base) ∧ Below w.heap.size w w' := by
  by_cases hb : offB base = true
  · exact bytes_walk a cap L base w hb hin hsz hlen
  · have hb' : offB base = false := by simpa using hb
    unfold bytesV
    rw [hb', Bool.false_and]
    exact bytes_bad a _ cap base w hb'
end Go.Proofs.Ytfjmcgdpiohnbaa
