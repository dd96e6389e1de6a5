/- A record's bytes are written into a builder: put. -/
/- Records that lie in memory; the bytes of records. -/
/- The bytes of records: Bytes. -/
/- Numbers out of bytes: what Var reads, as a plain function. -/
import Derived.Test.YtpjjenhimnkdcaaV04
import Derived.Deep.CutRange
namespace Go.Proofs.Ytpjjenhimnkdcaa
open Go.RowKit
set_option linter.unusedVariables false

/-- A record's bytes by a base. -/
def recL (base : Int) (r : Rec) : List UInt8 :=
  vb (r.off - base).toNat ++ vb r.key.size ++ r.key.data.toList ++ (if r.gone then vb 0 else vb (r.val.size + 1) ++ r.val.data.toList)
/-- Block b holds a record. -/
def RB (w : World) (b : Nat) (off : Int) (key val : ByteArray) (gone : Bool) : Prop :=
  w.heap[b]? = some (.cells #[.int .i64 off, .string key, .string val, .bool gone] 47 (0, 0))
theorem RB.cells {w : World} {b : Nat} {off : Int} {key val : ByteArray} {gone : Bool} (h : RB w b off key val gone) :
    w.cell? ⟨b, 0, none⟩ = some (.int .i64 off) ∧ w.cell? ⟨b, 1, none⟩ = some (.string key) ∧ w.cell? ⟨b, 2, none⟩ = some (.string val) ∧ w.cell? ⟨b, 3, none⟩ = some (.bool gone) := by
  unfold RB at h
  exact ⟨by simp [World.cell?, h], by simp [World.cell?, h], by simp [World.cell?, h], by simp [World.cell?, h]⟩
theorem RB.kept {w w' : World} {B b rb : Nat} {off : Int} {key val : ByteArray} {gone : Bool} (h : RB w rb off key val gone) (hne : rb ≠ b) (hf : BF B b w w') : RB w' rb off key val gone :=
  hf.kept rb _ h (by simpa using hne) (fun c fz e => by cases e)
theorem data_len (s : ByteArray) : s.data.toList.length = s.size := by rw [Array.length_toList]; rfl
set_option maxHeartbeats 1000000 in
theorem put_ok (B b : Nat) (l : List UInt8) (off base : Int) (key val : ByteArray) (gone : Bool) (w : World) (h : BS w B b l) (h0 : 0 ≤ base) (h1 : base ≤ off) (h2 : off < 1099511627776) (hk : key.size ≤ 64) (hv : val.size ≤ 4096) (hlen : l.length + 5000 ≤ 140737488355328) (hB : B ≤ w.heap.size) :
    Calls Try.prog 43 #[.pointer (some ⟨b, 0, none⟩), .agg #[.int .i64 off, .string key, .string val, .bool gone], .int .i64 base] w fun e w' => e = .returned (.tuple #[]) ∧ BS w' B b (l ++ recL base ⟨off, key, val, gone⟩) ∧ BF B b w w' := by
  obtain ⟨n, hn⟩ : ∃ n : Nat, off - base = n := Int.eq_ofNat_of_zero_le (by omega)
  have HE : Hid (recL base ⟨off, key, val, gone⟩ = vb n ++ vb key.size ++ key.data.toList ++ (if gone then vb 0 else vb (val.size + 1) ++ val.data.toList)) := by
    show vb (off - base).toNat ++ _ ++ _ ++ _ = _
    rw [hn]; rfl
  have hlt := h.lt
  have HB0 : Below w.heap.size w (w.alloc (.cells #[.int .i64 off, .string key, .string val, .bool gone] 47)) := (Below.refl _ _).alloc (Nat.le_refl _) _
  have HW : Hid (BS (w.alloc (.cells #[.int .i64 off, .string key, .string val, .bool gone] 47)) B b l) := h.below HB0
  have HR : Hid (RB (w.alloc (.cells #[.int .i64 off, .string key, .string val, .bool gone] 47)) w.heap.size off key val gone) := heap_alloc_new _ _
  have HF : Hid (BF B b w (w.alloc (.cells #[.int .i64 off, .string key, .string val, .bool gone] 47))) := BF.of_below HB0 hB
  have hne : w.heap.size ≠ b := by omega
  have hB1 : B ≤ (w.alloc (.cells #[.int .i64 off, .string key, .string val, .bool gone] 47)).heap.size := by simp; omega
  have hn1 : n ≤ 9223372036854775807 := by omega
  have v1 := vb_length n
  have v2 := vb_length key.size
  have v3 := vb_length 0
  have v4 := vb_length (val.size + 1)
  have d1 := data_len key
  have HL : Hid (l.length + 5000 ≤ 140737488355328 ∧ (vb n).length ≤ 10 ∧ (vb key.size).length ≤ 10 ∧ key.data.toList.length = key.size ∧ (vb (val.size + 1)).length ≤ 10) := ⟨hlen, v1, v2, d1, v4⟩
  clear h HB0 v1 v2 v3 v4 d1 hlen hlt
  obtain ⟨rb, hrb⟩ : ∃ rb, w.heap.size = rb := ⟨_, rfl⟩
  rw [hrb] at HR hne
  generalize hW0 : (w.alloc (.cells #[.int .i64 off, .string key, .string val, .bool gone] 47)) = w0 at HW HR HF hB1
  have c0 := HR.out.cells.1
  go_enter Try.func43, Try.ntmps43
  go_upto_region 1 with fail
  clear hW0
  go_wp2_with fail
  refine (putNumber_ok B b l n _ HW.out hn1 (by have := HL.out; omega) hB1).mono ?_
  rintro e w1 ⟨rfl, g1, g2⟩
  have HF1 : Hid (BF B b w w1) := HF.out.trans g2
  have HR1 : Hid (RB w1 rb off key val gone) := HR.out.kept hne g2
  have HW1 : Hid (BS w1 B b (l ++ vb n)) := g1
  have hB2 : B ≤ w1.heap.size := Nat.le_trans hB1 g2.size
  clear g1 g2 hB1 HW HR HF c0
  have c1 := HR1.out.cells.2.1
  go_wp2_with fail
  refine (putNumber_ok B b _ key.size _ HW1.out (by omega) (by have := HL.out; simp only [List.length_append]; omega) hB2).mono ?_
  rintro e w2 ⟨rfl, g1, g2⟩
  have HF2 : Hid (BF B b w w2) := HF1.out.trans g2
  have HR2 : Hid (RB w2 rb off key val gone) := HR1.out.kept hne g2
  have HW2 : Hid (BS w2 B b (l ++ vb n ++ vb key.size)) := g1
  have hB3 : B ≤ w2.heap.size := Nat.le_trans hB2 g2.size
  clear g1 g2 hB2 HW1 HR1 HF1 c1
  have c1 := HR2.out.cells.2.1
  go_wp2_with fail
  refine (write_ok B b _ key _ HW2.out (by have := HL.out; simp only [List.length_append]; omega) hB3).mono ?_
  rintro e w3 ⟨rfl, g1, g2⟩
  have HF3 : Hid (BF B b w w3) := HF2.out.trans g2
  have HR3 : Hid (RB w3 rb off key val gone) := HR2.out.kept hne g2
  have HW3 : Hid (BS w3 B b (l ++ vb n ++ vb key.size ++ key.data.toList)) := g1
  have hB4 : B ≤ w3.heap.size := Nat.le_trans hB3 g2.size
  clear g1 g2 hB3 HW2 HR2 HF2 c1
  have c2 := HR3.out.cells.2.2.1
  have c3 := HR3.out.cells.2.2.2
  cases gone
  · go_wp2_with fail
    refine (putNumber_ok B b _ (val.size + 1) _ HW3.out (by omega) (by have := HL.out; simp only [List.length_append]; omega) hB4).mono ?_
    rintro e w4 ⟨rfl, g1, g2⟩
    have HF4 : Hid (BF B b w w4) := HF3.out.trans g2
    have HR4 : Hid (RB w4 rb off key val false) := HR3.out.kept hne g2
    have HW4 : Hid (BS w4 B b (l ++ vb n ++ vb key.size ++ key.data.toList ++ vb (val.size + 1))) := g1
    have hB5 : B ≤ w4.heap.size := Nat.le_trans hB4 g2.size
    clear g1 g2 hB4 HW3 HR3 HF3 c2 c3
    have c2 := HR4.out.cells.2.2.1
    go_wp2_with fail
    refine (write_ok B b _ val _ HW4.out (by have := HL.out; simp only [List.length_append]; omega) hB5).mono ?_
    rintro e w5 ⟨rfl, g1, g2⟩
    have HF5 : Hid (BF B b w w5) := HF4.out.trans g2
    have HW5 : Hid (BS w5 B b (l ++ vb n ++ vb key.size ++ key.data.toList ++ vb (val.size + 1) ++ val.data.toList)) := g1
    clear g1 g2
    go_wp2
    first | go_ret | go_end0 | skip
    refine ⟨rfl, ?_, HF5.out⟩
    rw [HE.out]
    have := HW5.out
    simpa [List.append_assoc] using this
  · go_wp2_with fail
    refine (putNumber_ok B b _ 0 _ HW3.out (by omega) (by have := HL.out; simp only [List.length_append]; omega) hB4).mono ?_
    rintro e w4 ⟨rfl, g1, g2⟩
    have HF4 : Hid (BF B b w w4) := HF3.out.trans g2
    have HW4 : Hid (BS w4 B b (l ++ vb n ++ vb key.size ++ key.data.toList ++ vb 0)) := g1
    clear g1 g2
    go_wp2
    refine bodyPost_ret (v := .tuple #[]) (by simp [results, Try.results43]) rfl ⟨rfl, ?_, HF4.out⟩
    rw [HE.out]
    have := HW4.out
    simpa [List.append_assoc] using this
end Go.Proofs.Ytpjjenhimnkdcaa
namespace Go.Proofs.Ytpjjenhimnkdcaa
open Go.RowKit
set_option linter.unusedVariables false

/-- A slice of records. -/
def RIn (w : World) (a : Option Addr) (L : List Rec) : Prop :=
  ∀ i r, L[i]? = some r → ∃ b off, a = some ⟨b, off, none⟩ ∧ b < w.heap.size ∧ w.cell? ⟨b, off + i * 4, none⟩ = some (.int .i64 r.off) ∧ w.cell? ⟨b, off + i * 4 + 1, none⟩ = some (.string r.key) ∧ w.cell? ⟨b, off + i * 4 + 2, none⟩ = some (.string r.val) ∧ w.cell? ⟨b, off + i * 4 + 3, none⟩ = some (.bool r.gone)
theorem cell_below {w w' : World} {B b i : Nat} (h : Below B w w') (hb : b < B) : w'.cell? ⟨b, i, none⟩ = w.cell? ⟨b, i, none⟩ := by
  simp only [World.cell?, h.block b hb]
theorem RIn.below {w w' : World} {a : Option Addr} {L : List Rec} {B : Nat} (h : RIn w a L) (hb : Below B w w') (hB : w.heap.size ≤ B) : RIn w' a L := by
  intro i r hr
  obtain ⟨b, off, h1, h2, h3, h4, h5, h6⟩ := h i r hr
  exact ⟨b, off, h1, Nat.lt_of_lt_of_le h2 hb.size, by rw [cell_below hb (by omega)]; exact h3, by rw [cell_below hb (by omega)]; exact h4, by rw [cell_below hb (by omega)]; exact h5, by rw [cell_below hb (by omega)]; exact h6⟩
/-- Their sizes are such as a machine can hold. -/
def Sized (L : List Rec) : Prop := ∀ r ∈ L, r.key.size ≤ 9223372036854775807 ∧ r.val.size ≤ 9223372036854775807
theorem mayCome_ok (off lowest : Int) (key val : ByteArray) (gone : Bool) (w : World) (hk : key.size ≤ 9223372036854775807) (hv : val.size ≤ 9223372036854775807) :
    Calls Try.prog 42 #[.agg #[.int .i64 off, .string key, .string val, .bool gone], .int .i64 lowest] w fun e w' => e = .returned (.bool (mayB ⟨off, key, val, gone⟩ && decide (lowest ≤ off))) ∧ Below w.heap.size w w' := by
  have HB : Hid (Below w.heap.size w (w.alloc (.cells #[.int .i64 off, .string key, .string val, .bool gone] 47))) := (Below.refl _ _).alloc (Nat.le_refl _) _
  have HR : RB (w.alloc (.cells #[.int .i64 off, .string key, .string val, .bool gone] 47)) w.heap.size off key val gone := heap_alloc_new _ _
  have HC : Hid (∀ W, Calls Try.prog 49 #[.agg #[.int .i64 off, .string key, .string val, .bool gone]] W fun e w' => e = .returned (.int .i64 (errN (mayB ⟨off, key, val, gone⟩))) ∧ Below W.heap.size W w') := fun W => check_ok off key val gone W hk hv
  obtain ⟨rb, hrb⟩ : ∃ rb, w.heap.size = rb := ⟨_, rfl⟩
  have hlt : rb < (w.alloc (.cells #[.int .i64 off, .string key, .string val, .bool gone] 47)).heap.size := by simp; omega
  rw [hrb] at HR HB
  generalize hW0 : (w.alloc (.cells #[.int .i64 off, .string key, .string val, .bool gone] 47)) = w0 at HB HR hlt
  generalize mayB ⟨off, key, val, gone⟩ = m at HC
  obtain ⟨c0, c1, c2, c3⟩ := HR.cells
  have HR' : Hid (RB w0 rb off key val gone) := HR
  clear HR
  go_enter Try.func42, Try.ntmps42
  go_upto_region 1 with fail
  clear hW0
  go_wp2_with fail
  refine (HC.out _).mono ?_
  rintro e w1 ⟨rfl, hb1⟩
  have c4 := (show RB w1 rb off key val gone from (hb1.block rb hlt).trans HR'.out).cells.1
  have HB1 : Hid (Below rb w w1) := HB.out.trans (hb1.mono (by omega))
  clear hb1 c0 c1 c2 c3
  have h0 : errN true = 0 := rfl
  have h1 : errN false = 90 := rfl
  cases m
  · rw [h1]
    go_wp2
    go_ret
    exact ⟨rfl, hrb ▸ HB1.out⟩
  · rw [h0]
    go_wp2
    go_ret
    exact ⟨rfl, hrb ▸ HB1.out⟩
/-- Do records come one behind the other, from an offset on? -/
def comes : List Rec → Int → Bool
  | [], _ => true
  | r :: L, low => (mayB r && decide (low ≤ r.off)) && comes L (r.off + 1)
/-- All their bytes. -/
def recsL (base : Int) : List Rec → List UInt8
  | [] => []
  | r :: L => recL base r ++ recsL base L
/-- What Bytes answers. -/
def bytesV (L : List Rec) (base : Int) : Value := if offB base && comes L base then .tuple #[.string (mk (recsL base L)), .int .i64 0] else .tuple #[.string ⟨#[]⟩, .int .i64 90]
theorem recL_len (base : Int) (r : Rec) (h : mayB r = true) : (recL base r).length ≤ 4190 := by
  obtain ⟨h1, h2, h3, h4⟩ := (mayB_iff r).1 h
  have a := vb_length (r.off - base).toNat
  have b := vb_length r.key.size
  have c := vb_length 0
  have d := vb_length (r.val.size + 1)
  have e := data_len r.key
  have f := data_len r.val
  unfold recL
  cases r.gone <;> simp <;> omega
theorem recsL_snoc (base : Int) (L : List Rec) (r : Rec) : recsL base (L ++ [r]) = recsL base L ++ recL base r := by
  induction L with
  | nil => simp [recsL]
  | cons x L ih => simp [recsL, ih, List.append_assoc]
theorem recsL_append (base : Int) (L M : List Rec) : recsL base (L ++ M) = recsL base L ++ recsL base M := by
  induction L with
  | nil => simp [recsL]
  | cons x L ih => simp [recsL, ih, List.append_assoc]
/-- What is lowest behind records. -/
def lowB : List Rec → Int → Int
  | [], low => low
  | r :: L, _ => lowB L (r.off + 1)
theorem comes_append (L M : List Rec) (low : Int) : comes (L ++ M) low = (comes L low && comes M (lowB L low)) := by
  induction L generalizing low with
  | nil => simp [comes, lowB]
  | cons x L ih => simp [comes, lowB, ih, Bool.and_assoc]
theorem lowB_snoc (L : List Rec) (r : Rec) (low : Int) : lowB (L ++ [r]) low = r.off + 1 := by
  induction L generalizing low with
  | nil => rfl
  | cons x L ih => exact ih _
theorem comes_mem (L : List Rec) (low : Int) (h : comes L low = true) : ∀ r ∈ L, mayB r = true := by
  induction L generalizing low with
  | nil => intro r hr; cases hr
  | cons x L ih =>
    simp only [comes, Bool.and_eq_true] at h
    intro r hr
    rcases List.mem_cons.1 hr with rfl | hr
    · exact h.1.1
    · exact ih _ h.2 r hr
theorem recsL_len (base : Int) (L : List Rec) (h : ∀ r ∈ L, mayB r = true) : (recsL base L).length ≤ 4190 * L.length := by
  induction L with
  | nil => simp [recsL]
  | cons x L ih =>
    have := ih (fun r hr => h r (List.mem_cons_of_mem _ hr))
    have := recL_len base x (h x List.mem_cons_self)
    simp only [recsL, List.length_append, List.length_cons]
    omega
end Go.Proofs.Ytpjjenhimnkdcaa
namespace Go.Proofs.Ytpjjenhimnkdcaa
open Go.RowKit
set_option linter.unusedVariables false

theorem bytes_bad (a : Option Addr) (len cap : Nat) (base : Int) (w : World) (h : offB base = false) :
    Calls Try.prog 34 #[.slice a len cap, .int .i64 base] w fun e w' => e = .returned (.tuple #[.string ⟨#[]⟩, .int .i64 90]) ∧ Below w.heap.size w w' := by
  have HO := isOffset_ok base
  rw [h] at HO
  go_enter Try.func34, Try.ntmps34
  go_wp2_with (go_at_call 41; refine (HO _).mono ?_; rintro e w' ⟨rfl, rfl⟩)
  go_ret2
  exact ⟨rfl, Below.refl _ _⟩
/-- What a round keeps. -/
structure BR (w wr : World) (b : Nat) (a : Option Addr) (base : Int) (L M : List Rec) (low : Int) : Prop where
  bs : BS wr w.heap.size b (recsL base M)
  bel : Below w.heap.size w wr
  lt : w.heap.size ≤ wr.heap.size
  low : low = lowB M base
  may : comes M base = true
  pre : ∃ T, L = M ++ T
theorem lowB_ge (M : List Rec) (base : Int) (h : comes M base = true) : base ≤ lowB M base := by
  induction M generalizing base with
  | nil => exact Int.le_refl _
  | cons r M ih =>
    simp only [comes, Bool.and_eq_true, decide_eq_true_eq] at h
    have := ih (r.off + 1) h.2
    simp only [lowB]
    omega
set_option maxHeartbeats 2000000 in
theorem bytes_walk (a : Option Addr) (cap : Nat) (L : List Rec) (base : Int) (w : World) (hb : offB base = true) (hin : RIn w a L) (hsz : Sized L) (hlen : 4190 * L.length + 5000 ≤ 140737488355328) :
    Calls Try.prog 34 #[.slice a L.length cap, .int .i64 base] w fun e w' => e = .returned (bytesV L base) ∧ Below w.heap.size w w' := by
  have HVT : Hid (comes L base = true → bytesV L base = .tuple #[.string (mk (recsL base L)), .int .i64 0]) := fun h => by unfold bytesV; rw [hb, h]; rfl
  have HVF : Hid (comes L base = false → bytesV L base = .tuple #[.string ⟨#[]⟩, .int .i64 90]) := fun h => by unfold bytesV; rw [hb, h]; rfl
  obtain ⟨bv, hbv⟩ : ∃ bv, bytesV L base = bv := ⟨_, rfl⟩
  rw [hbv] at HVT HVF ⊢
  clear hbv
  have HO := isOffset_ok base
  rw [hb] at HO
  have HIN : Hid (RIn w a L) := hin
  have HSZ : Hid (Sized L) := hsz
  have HST : Hid (BR w (w.alloc (.cells #[.pointer none, .slice none 0 0] 80)) w.heap.size a base L [] base) :=
    ⟨BS.new w, (Below.refl _ _).alloc (Nat.le_refl _) _, by simp, rfl, rfl, L, rfl⟩
  obtain ⟨len, hl⟩ : ∃ len, L.length = len := ⟨_, rfl⟩
  rw [hl] at hlen ⊢
  have HL : Hid (L.length = len) := hl
  obtain ⟨hb0, hb1⟩ : 0 ≤ base ∧ base < 1099511627776 := by unfold offB at hb; simpa using hb
  clear hin hsz hl
  go_enter Try.func34, Try.ntmps34
  go_wp2_with (go_at_call 41; refine (HO _).mono ?_; rintro e w' ⟨rfl, rfl⟩)
  go_loopw [7, 16] (fun lw i wr => ∃ (M : List Rec) (low : Int), i = .int .i64 (M.length : Nat) ∧ lw = .int .i64 low ∧ BR w' wr w'.heap.size a base L M low) (fun _ i _ => len - (intOf i).toNat)
  case atStart => exact ⟨[], base, rfl, rfl, HST.out⟩
  case round =>
    obtain ⟨M, low, rfl, rfl, hr⟩ := hrel
    have HR : Hid (BR w' wr w'.heap.size a base L M low) := hr
    have hin' : RIn wr a L := HIN.out.below hr.bel (Nat.le_refl _)
    obtain ⟨T, hT⟩ := hr.pre
    have hltw := hr.bs.lt
    have hsw := hr.lt
    clear hr
    cases T with
    | nil =>
      have hML : M.length = len := by have := HL.out; rw [hT, List.append_nil] at this; exact this
      have hM : L = M := by rw [hT, List.append_nil]
      have h1 : comes L base = true := by rw [hM]; exact HR.out.may
      have h2 : BS wr w'.heap.size w'.heap.size (recsL base L) := by rw [hM]; exact HR.out.bs
      have H1 : Hid (comes L base = true) := h1
      have H2 : Hid (BS wr w'.heap.size w'.heap.size (recsL base L)) := h2
      clear hM h1 h2
      clear hT hin'
      go_wp2_with fail
      refine (Try.Builder_String_any_k _ _ _ _ H2.out hsw).mono ?_
      rintro e w2 ⟨rfl, g1, g2, g3⟩
      have HB : Hid (Below w'.heap.size w' w2) := HR.out.bel.trans g2
      clear g1 g2 g3
      go_wp2
      go_ret2
      exact ⟨by rw [HVT.out H1.out]; rfl, HB.out⟩
    | cons r T =>
      have hr0 : L[M.length]? = some r := by rw [hT]; simp
      have hlt : M.length < len := by have := HL.out; rw [hT] at this; simp at this; omega
      have hrs := HSZ.out r (by rw [hT]; simp)
      obtain ⟨sb, so, rfl, hsb, c0, c1, c2, c3⟩ := hin' _ _ hr0
      obtain ⟨hrk, hrv⟩ := hrs
      have HT : Hid (L = M ++ r :: T) := hT
      clear hT hin' hr0
      obtain ⟨off, key, val, gone⟩ := r
      simp only at c0 c1 c2 c3 hrk hrv
      have HC : Hid (∀ W, Calls Try.prog 42 #[.agg #[.int .i64 off, .string key, .string val, .bool gone], .int .i64 low] W fun e w' => e = .returned (.bool (mayB ⟨off, key, val, gone⟩ && decide (low ≤ off))) ∧ Below W.heap.size W w') := fun W => mayCome_ok off low key val gone W hrk hrv
      have hBa : Below wr.heap.size wr (wr.alloc (.cells #[.int .i64 off, .string key, .string val, .bool gone] 47)) := (Below.refl _ _).alloc (Nat.le_refl _) _
      have HRB : Hid (RB (wr.alloc (.cells #[.int .i64 off, .string key, .string val, .bool gone] 47)) wr.heap.size off key val gone) := heap_alloc_new _ _
      have HBA : Hid (Below w'.heap.size w' (wr.alloc (.cells #[.int .i64 off, .string key, .string val, .bool gone] 47))) := HR.out.bel.trans (hBa.mono hsw)
      have HBS : Hid (BS (wr.alloc (.cells #[.int .i64 off, .string key, .string val, .bool gone] 47)) w'.heap.size w'.heap.size (recsL base M)) := HR.out.bs.below hBa
      clear hBa
      obtain ⟨rb, hrb⟩ : ∃ rb, wr.heap.size = rb := ⟨_, rfl⟩
      have hrl : rb < (wr.alloc (.cells #[.int .i64 off, .string key, .string val, .bool gone] 47)).heap.size := by simp; omega
      rw [hrb] at HRB
      generalize hWA : (wr.alloc (.cells #[.int .i64 off, .string key, .string val, .bool gone] 47)) = wA at HRB HBA HBS hrl
      have hE : comes L base = ((mayB ⟨off, key, val, gone⟩ && decide (low ≤ off)) && comes T (off + 1)) := by
        rw [HT.out, comes_append, HR.out.may, Bool.true_and, ← HR.out.low]; rfl
      have HE : Hid (comes L base = ((mayB ⟨off, key, val, gone⟩ && decide (low ≤ off)) && comes T (off + 1))) := hE
      clear hE
      go_upto_region 8 with fail
      clear hWA
      obtain ⟨d0, d1, d2, d3⟩ := HRB.out.cells
      by_cases hm : (mayB ⟨off, key, val, gone⟩ && decide (low ≤ off)) = true
      · rw [hm] at HC HE
        have HM : Hid (mayB ⟨off, key, val, gone⟩ = true ∧ low ≤ off) := by
          have h2 := hm
          rw [Bool.and_eq_true, decide_eq_true_eq] at h2
          exact h2
        clear hm
        go_wp2_with fail
        refine (HC.out _).mono ?_
        rintro e w1 ⟨rfl, hb1⟩
        have HRB1 : Hid (RB w1 rb off key val gone) := (hb1.block rb hrl).trans HRB.out
        have HB1 : Hid (Below w'.heap.size w' w1) := HBA.out.trans (hb1.mono HBA.out.size)
        have HBS1 : Hid (BS w1 w'.heap.size w'.heap.size (recsL base M)) := HBS.out.below hb1
        clear hb1 d0 d1 d2 d3 HRB HBA HBS
        obtain ⟨d0, d1, d2, d3⟩ := HRB1.out.cells
        have hs1 : w'.heap.size ≤ w1.heap.size := HB1.out.size
        obtain ⟨hm1, hm2⟩ := HM.out
        have hok := (mayB_iff _).1 hm1
        simp only at hok
        obtain ⟨ho1, ho2⟩ : 0 ≤ off ∧ off < 1099511627776 := by have := hok.1; unfold offB at this; simpa using this
        have hlowb : base ≤ low := by
          rw [HR.out.low]
          exact lowB_ge M base HR.out.may
        have hMl : (recsL base M).length + 5000 ≤ 140737488355328 := by
          have := recsL_len base M (comes_mem M base HR.out.may)
          omega
        go_wp2_with fail
        refine (put_ok w'.heap.size w'.heap.size (recsL base M) off base key val gone _ HBS1.out hb0 (by omega) ho2 hok.2.1 hok.2.2.1 hMl hs1).mono ?_
        rintro e w2 ⟨rfl, g1, g2⟩
        have HN : Hid (BR w' w2 w'.heap.size (some ⟨sb, so, none⟩) base L (M ++ [⟨off, key, val, gone⟩]) (off + 1)) :=
          ⟨by rw [recsL_snoc]; exact g1, HB1.out.trans g2.below, Nat.le_trans hs1 g2.size, by rw [lowB_snoc], by
            rw [comes_append, HR.out.may, Bool.true_and, ← HR.out.low]; simp [comes, hm1, hm2], T, by rw [HT.out]; simp⟩
        have d4 := (HRB1.out.kept (show rb ≠ w'.heap.size by omega) g2).cells.1
        clear g1 g2 hMl hok hm1 hm2 d0 d1 d2 d3
        go_wp2
        go_roundw
        case rel => exact ⟨M ++ [⟨off, key, val, gone⟩], off + 1, by simp, rfl, HN.out⟩
        case measure => simp [intOf]; omega
      · have hm' : (mayB ⟨off, key, val, gone⟩ && decide (low ≤ off)) = false := by simpa using hm
        rw [hm'] at HC HE
        clear hm hm'
        go_wp2_with fail
        refine (HC.out _).mono ?_
        rintro e w1 ⟨rfl, hb1⟩
        have HB1 : Hid (Below w'.heap.size w' w1) := HBA.out.trans (hb1.mono HBA.out.size)
        clear hb1
        go_wp2
        go_ret2
        exact ⟨by rw [HVF.out (by rw [HE.out]; rfl)]; rfl, HB1.out⟩
/-- Bytes of whatever records. -/
theorem bytes_ok (a : Option Addr) (cap : Nat) (L : List Rec) (base : Int) (w : World) (hin : RIn w a L) (hsz : Sized L) (hlen : 4190 * L.length + 5000 ≤ 140737488355328) :
    Calls Try.prog 34 #[.slice a L.length cap, .int .i64 base] w fun e w' => e = .returned (bytesV L base) ∧ Below w.heap.size w w' := by
  by_cases hb : offB base = true
  · exact bytes_walk a cap L base w hb hin hsz hlen
  · have hb' : offB base = false := by simpa using hb
    unfold bytesV
    rw [hb', Bool.false_and]
    exact bytes_bad a _ cap base w hb'
end Go.Proofs.Ytpjjenhimnkdcaa
namespace Go.Proofs.Ytpjjenhimnkdcaa
open Go.RowKit
set_option linter.unusedVariables false

/-- A number of k + 1 bytes stands at a text's beginning. -/
def Good (s : ByteArray) (k : Nat) : Prop := k < 9 ∧ k < s.size ∧ (∀ j, j < k → 128 ≤ byteN s j) ∧ byteN s k < 128 ∧ (byteN s k = 0 → k = 0)
theorem Good.uniq {s : ByteArray} {k m : Nat} (h : Good s k) (g : Good s m) : k = m := by
  rcases Nat.lt_trichotomy k m with hl | hl | hl
  · have := g.2.2.1 k hl; have := h.2.2.2.1; omega
  · exact hl
  · have := h.2.2.1 m hl; have := g.2.2.2.1; omega
open Classical in
/-- The number that a text begins with, and how many bytes it has. -/
noncomputable def varD (s : ByteArray) : Option (Nat × Nat) := if h : ∃ k, Good s k then some (varN s (h.choose + 1), h.choose + 1) else none
theorem varD_good {s : ByteArray} {k : Nat} (h : Good s k) : varD s = some (varN s (k + 1), k + 1) := by
  unfold varD
  rw [dif_pos ⟨k, h⟩, (Exists.choose_spec (⟨k, h⟩ : ∃ k, Good s k)).uniq h]
theorem varD_none {s : ByteArray} (h : ∀ k, ¬ Good s k) : varD s = none := by
  unfold varD
  rw [dif_neg (fun ⟨k, hk⟩ => h k hk)]
theorem varD_some {s : ByteArray} {x n : Nat} (h : varD s = some (x, n)) : ∃ k, Good s k ∧ x = varN s (k + 1) ∧ n = k + 1 := by
  by_cases hg : ∃ k, Good s k
  · obtain ⟨k, hk⟩ := hg
    rw [varD_good hk] at h
    cases h
    exact ⟨k, hk, rfl, rfl⟩
  · rw [varD_none (fun k hk => hg ⟨k, hk⟩)] at h
    cases h
theorem varD_le {s : ByteArray} {x n : Nat} (h : varD s = some (x, n)) : x ≤ 9223372036854775807 ∧ 1 ≤ n ∧ n ≤ 9 ∧ n ≤ s.size := by
  obtain ⟨k, h1, rfl, rfl⟩ := varD_some h
  exact ⟨varN_63 s (k + 1) (by have := h1.1; omega), by omega, by have := h1.1; omega, h1.2.1⟩
/-- Both readers answer by it. -/
def VarEnd (s : ByteArray) (e : Ending) : Prop := (∃ x n, varD s = some (x, n) ∧ e = .returned (.tuple #[.int .i64 (x : Nat), .int .i64 (n : Nat), .int .i64 0])) ∨ (varD s = none ∧ (e = .returned (.tuple #[.int .i64 0, .int .i64 0, .int .i64 10]) ∨ e = .returned (.tuple #[.int .i64 0, .int .i64 0, .int .i64 5])))
/-- What stands behind a number's bytes does not matter. -/
theorem byteN_mk (l : List UInt8) (i : Nat) : byteN (mk l) i = (l.getD i 0).toNat := by unfold byteN; rw [mk_toList]
theorem varN_congr (s t : ByteArray) (k : Nat) (h : ∀ i, i < k → byteN s i = byteN t i) : varN s k = varN t k := by
  induction k with
  | zero => rfl
  | succ k ih => simp only [varN]; rw [ih (fun i hi => h i (by omega)), h k (by omega)]
theorem varD_append {l : List UInt8} {x n : Nat} (h : varD (mk l) = some (x, n)) (m : List UInt8) : varD (mk (l ++ m)) = some (x, n) := by
  obtain ⟨k, h1, rfl, rfl⟩ := varD_some h
  have hk : k < l.length := by have := h1.2.1; rw [mk_size] at this; exact this
  have hb : ∀ i, i ≤ k → byteN (mk (l ++ m)) i = byteN (mk l) i := fun i hi => by
    rw [byteN_mk, byteN_mk, List.getD_eq_getElem?_getD, List.getD_eq_getElem?_getD, List.getElem?_append_left (by omega)]
  rw [varD_good (k := k) ⟨h1.1, by rw [mk_size, List.length_append]; omega, fun j hj => by rw [hb j (by omega)]; exact h1.2.2.1 j hj, by rw [hb k (by omega)]; exact h1.2.2.2.1, by rw [hb k (by omega)]; exact h1.2.2.2.2⟩]
  rw [varN_congr _ (mk l) (k + 1) (fun i hi => hb i (by omega))]
theorem vb_fit (n : Nat) (hn : n ≤ 9223372036854775807) : vb n = (varB 9 n).map UInt8.ofNat := by
  unfold vb; rw [varB_fuel 9 n (by omega) (by omega)]
/-- What PutVar wrote is read as the number. -/
theorem varD_vb (n : Nat) (m : List UInt8) (hn : n ≤ 9223372036854775807) : varD (mk (vb n ++ m)) = some (n, (vb n).length) := by
  obtain ⟨k, h1, h2, h3, h4, h5, h6⟩ := varB_shape 9 n (by omega) (by omega)
  have hlt := varB_lt 9 n
  have e : mk (vb n ++ m) = toBA (varB 9 n) ++ mk m := by
    rw [vb_fit n hn]
    apply ByteArray.ext
    rw [ByteArray.data_append]
    simp [mk, toBA]
  have hb : ∀ i, i < (varB 9 n).length → byteN (mk (vb n ++ m)) i = (varB 9 n).getD i 0 := fun i hi => by rw [e]; exact byteN_append _ _ _ hi hlt
  have hlen : (vb n).length = k + 1 := by rw [vb_fit n hn, List.length_map, h1]
  have hv : varN (mk (vb n ++ m)) (k + 1) = n := by
    rw [varN_gsum _ (varB 9 n) hb (k + 1) (by omega), ← h1, List.take_length, h6]
  rw [varD_good (k := k) ⟨by omega, by rw [mk_size, List.length_append, hlen]; omega, fun j hj => by rw [hb j (by omega)]; exact h3 j hj, by rw [hb k (by omega)]; exact h4, fun hz => by
    rw [hb k (by omega)] at hz
    rcases Nat.eq_zero_or_pos k with e | e
    · exact e
    · exact absurd hz (h5 e)⟩, hv, hlen]
theorem varD_nil : varD (mk []) = none := varD_none fun k hk => by have := hk.2.1; simp [mk_size] at this
end Go.Proofs.Ytpjjenhimnkdcaa
