/- Records that lie in memory; the bytes of records. -/
import Derived.Test.YtfjmcgdpiohnbaaAc
namespace Go.Proofs.Ytfjmcgdpiohnbaa
open Go.RowKit
set_option linter.unusedVariables false

/-- A slice of records. -/
def RIn (w : World) (a : Option Addr) (L : List Rec) : Prop :=
  ∀ i r, L[i]? = some r → ∃ b off, a = some ⟨b, off, none⟩ ∧ b < w.heap.size ∧ w.cell? ⟨b, off + i * 4, none⟩ = some (.int .i64 r.off) ∧ w.cell? ⟨b, off + i * 4 + 1, none⟩ = some (.string r.key) ∧ w.cell? ⟨b, off + i * 4 + 2, none⟩ = some (.string r.val) ∧ w.cell? ⟨b, off + i * 4 + 3, none⟩ = some (.bool r.gone)
theorem cell_below {w w' : World} {B b i : Nat} (h : Below B w w') (hb : b < B) : w'.cell? ⟨b, i, none⟩ = w.cell? ⟨b, i, none⟩ := by
  simp only [World.cell?, h.block b hb]
theorem RIn.below {w w' : World} {a : Option Addr} {L : List Rec} {B : Nat} (h : RIn w a L) (hb : Below B w w') (hB : w.heap.size ≤ B) : RIn w' a L := by
  intro i r hr
  obtain ⟨b, off, h1, h2, h3, h4, h5, h6⟩ := h i r hr
  exact ⟨b, off, h1, Nat.lt_of_lt_of_le h2 hb.size, by rw [cell_below hb (by omega)]; exact h3, by rw [cell_below hb (by omega)]; exact h4, by rw [cell_below hb (by omega)]; exact h5, by rw [cell_below hb (by omega)]; exact h6⟩
/-- Their sizes are such as a machine can hold. -/
def Sized (L : List Rec) : Prop := ∀ r ∈ L, r.key.size ≤ 9223372036854775807 ∧ r.val.size ≤ 9223372036854775807
theorem mayCome_ok (off lowest : Int) (key val : ByteArray) (gone : Bool) (w : World) (hk : key.size ≤ 9223372036854775807) (hv : val.size ≤ 9223372036854775807) :
    Calls Try.prog 19 #[.agg #[.int .i64 off, .string key, .string val, .bool gone], .int .i64 lowest] w fun e w' => e = .returned (.bool (mayB ⟨off, key, val, gone⟩ && decide (lowest ≤ off))) ∧ Below w.heap.size w w' := by
  have HB : Hid (Below w.heap.size w (w.alloc (.cells #[.int .i64 off, .string key, .string val, .bool gone] 28))) := (Below.refl _ _).alloc (Nat.le_refl _) _
  have HR : RB (w.alloc (.cells #[.int .i64 off, .string key, .string val, .bool gone] 28)) w.heap.size off key val gone := heap_alloc_new _ _
  have HC : Hid (∀ W, Calls Try.prog 11 #[.agg #[.int .i64 off, .string key, .string val, .bool gone]] W fun e w' => e = .returned (.int .i64 (errN (mayB ⟨off, key, val, gone⟩))) ∧ Below W.heap.size W w') := fun W => check_ok off key val gone W hk hv
  obtain ⟨rb, hrb⟩ : ∃ rb, w.heap.size = rb := ⟨_, rfl⟩
  have hlt : rb < (w.alloc (.cells #[.int .i64 off, .string key, .string val, .bool gone] 28)).heap.size := by simp; omega
  rw [hrb] at HR HB
  generalize hW0 : (w.alloc (.cells #[.int .i64 off, .string key, .string val, .bool gone] 28)) = w0 at HB HR hlt
  generalize mayB ⟨off, key, val, gone⟩ = m at HC
  obtain ⟨c0, c1, c2, c3⟩ := HR.cells
  have HR' : Hid (RB w0 rb off key val gone) := HR
  clear HR
  go_enter Try.func19, Try.ntmps19
  go_upto_region 1 with fail
  clear hW0
  go_wp2_with fail
  refine (HC.out _).mono ?_
  rintro e w1 ⟨rfl, hb1⟩
  have c4 := (show RB w1 rb off key val gone from (hb1.block rb hlt).trans HR'.out).cells.1
  have HB1 : Hid (Below rb w w1) := HB.out.trans (hb1.mono (by omega))
  clear hb1 c0 c1 c2 c3
  have h0 : errN true = 0 := rfl
  have h1 : errN false = 90 := rfl
  cases m
  · rw [h1]
    go_wp2
    go_ret
    exact ⟨rfl, hrb ▸ HB1.out⟩
  · rw [h0]
    go_wp2
    go_ret
    exact ⟨rfl, hrb ▸ HB1.out⟩
/-- Do records come one behind the other, from an offset on? -/
def comes : List Rec → Int → Bool
  | [], _ => true
  | r :: L, low => (mayB r && decide (low ≤ r.off)) && comes L (r.off + 1)
/-- All their bytes. -/
def recsL (base : Int) : List Rec → List UInt8
  | [] => []
  | r :: L => recL base r ++ recsL base L
/-- What Bytes answers. -/
def bytesV (L : List Rec) (base : Int) : Value := if offB base && comes L base then .tuple #[.string (mk (recsL base L)), .int .i64 0] else .tuple #[.string ⟨#[]⟩, .int .i64 90]
theorem recL_len (base : Int) (r : Rec) (h : mayB r = true) : (recL base r).length ≤ 4190 := by
  obtain ⟨h1, h2, h3, h4⟩ := (mayB_iff r).1 h
  have a := vb_length (r.off - base).toNat
  have b := vb_length r.key.size
  have c := vb_length 0
  have d := vb_length (r.val.size + 1)
  have e := data_len r.key
  have f := data_len r.val
  unfold recL
  cases r.gone <;> simp <;> omega
theorem recsL_snoc (base : Int) (L : List Rec) (r : Rec) : recsL base (L ++ [r]) = recsL base L ++ recL base r := by
  induction L with
  | nil => simp [recsL]
  | cons x L ih => simp [recsL, ih, List.append_assoc]
theorem recsL_append (base : Int) (L M : List Rec) : recsL base (L ++ M) = recsL base L ++ recsL base M := by
  induction L with
  | nil => simp [recsL]
  | cons x L ih => simp [recsL, ih, List.append_assoc]
/-- What is lowest behind records. -/
def lowB : List Rec → Int → Int
  | [], low => low
  | r :: L, _ => lowB L (r.off + 1)
theorem comes_append (L M : List Rec) (low : Int) : comes (L ++ M) low = (comes L low && comes M (lowB L low)) := by
  induction L generalizing low with
  | nil => simp [comes, lowB]
  | cons x L ih => simp [comes, lowB, ih, Bool.and_assoc]
theorem lowB_snoc (L : List Rec) (r : Rec) (low : Int) : lowB (L ++ [r]) low = r.off + 1 := by
  induction L generalizing low with
  | nil => rfl
  | cons x L ih => exact ih _
theorem comes_mem (L : List Rec) (low : Int) (h : comes L low = true) : ∀ r ∈ L, mayB r = true := by
  induction L generalizing low with
  | nil => intro r hr; cases hr
  | cons x L ih =>
    simp only [comes, Bool.and_eq_true] at h
    intro r hr
    rcases List.mem_cons.1 hr with rfl | hr
    · exact h.1.1
    · exact ih _ h.2 r hr
theorem recsL_len (base : Int) (L : List Rec) (h : ∀ r ∈ L, mayB r = true) : (recsL base L).length ≤ 4190 * L.length := by
  induction L with
  | nil => simp [recsL]
  | cons x L ih =>
    have := ih (fun r hr => h r (List.mem_cons_of_mem _ hr))
    have := recL_len base x (h x List.mem_cons_self)
    simp only [recsL, List.length_append, List.length_cons]
    omega
end Go.Proofs.Ytfjmcgdpiohnbaa
