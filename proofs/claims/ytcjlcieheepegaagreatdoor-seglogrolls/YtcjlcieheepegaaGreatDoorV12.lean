/- A record's bytes are written into a builder: put. -/
/- Records that lie in memory; the bytes of records. -/
/- The bytes of records: Bytes. -/
/- Numbers out of bytes: what Var reads, as a plain function. -/
import Derived.Test.YtcjlcieheepegaaGreatDoorV10
import Derived.Deep.CutRange
namespace Go.Proofs.YtcjlcieheepegaaGreatDoor
open Go.RowKit
set_option linter.unusedVariables false
set_option maxRecDepth 20000

/-- A record's bytes by a base. -/
def recL (base : Int) (r : Rec) : List UInt8 :=
  vb (r.off - base).toNat ++ vb r.key.size ++ r.key.data.toList ++ (if r.gone then vb 0 else vb (r.val.size + 1) ++ r.val.data.toList)
/-- Block b holds a record. -/
def RB (w : World) (b : Nat) (off : Int) (key val : ByteArray) (gone : Bool) : Prop :=
  w.heap[b]? = some (.cells #[.int .i64 off, .string key, .string val, .bool gone] 49 (0, 0))
theorem RB.cells {w : World} {b : Nat} {off : Int} {key val : ByteArray} {gone : Bool} (h : RB w b off key val gone) :
    w.cell? ⟨b, 0, none⟩ = some (.int .i64 off) ∧ w.cell? ⟨b, 1, none⟩ = some (.string key) ∧ w.cell? ⟨b, 2, none⟩ = some (.string val) ∧ w.cell? ⟨b, 3, none⟩ = some (.bool gone) := by
  unfold RB at h
  exact ⟨by simp [World.cell?, h], by simp [World.cell?, h], by simp [World.cell?, h], by simp [World.cell?, h]⟩
theorem RB.kept {w w' : World} {B b rb : Nat} {off : Int} {key val : ByteArray} {gone : Bool} (h : RB w rb off key val gone) (hne : rb ≠ b) (hf : BF B b w w') : RB w' rb off key val gone :=
  hf.kept rb _ h (by simpa using hne) (fun c fz e => by cases e)
theorem data_len (s : ByteArray) : s.data.toList.length = s.size := by rw [Array.length_toList]; rfl
end Go.Proofs.YtcjlcieheepegaaGreatDoor
namespace Go.Proofs.YtcjlcieheepegaaGreatDoor
open Go.RowKit
set_option linter.unusedVariables false
set_option maxRecDepth 20000

/-- A slice of records. -/
def RIn (w : World) (a : Option Addr) (L : List Rec) : Prop :=
  ∀ i r, L[i]? = some r → ∃ b off, a = some ⟨b, off, none⟩ ∧ b < w.heap.size ∧ w.cell? ⟨b, off + i * 4, none⟩ = some (.int .i64 r.off) ∧ w.cell? ⟨b, off + i * 4 + 1, none⟩ = some (.string r.key) ∧ w.cell? ⟨b, off + i * 4 + 2, none⟩ = some (.string r.val) ∧ w.cell? ⟨b, off + i * 4 + 3, none⟩ = some (.bool r.gone)
theorem cell_below {w w' : World} {B b i : Nat} (h : Below B w w') (hb : b < B) : w'.cell? ⟨b, i, none⟩ = w.cell? ⟨b, i, none⟩ := by
  simp only [World.cell?, h.block b hb]
theorem RIn.below {w w' : World} {a : Option Addr} {L : List Rec} {B : Nat} (h : RIn w a L) (hb : Below B w w') (hB : w.heap.size ≤ B) : RIn w' a L := by
  intro i r hr
  obtain ⟨b, off, h1, h2, h3, h4, h5, h6⟩ := h i r hr
  exact ⟨b, off, h1, Nat.lt_of_lt_of_le h2 hb.size, by rw [cell_below hb (by omega)]; exact h3, by rw [cell_below hb (by omega)]; exact h4, by rw [cell_below hb (by omega)]; exact h5, by rw [cell_below hb (by omega)]; exact h6⟩
/-- Their sizes are such as a machine can hold. -/
def Sized (L : List Rec) : Prop := ∀ r ∈ L, r.key.size ≤ 9223372036854775807 ∧ r.val.size ≤ 9223372036854775807
theorem mayCome_ok (off lowest : Int) (key val : ByteArray) (gone : Bool) (w : World) (hk : key.size ≤ 9223372036854775807) (hv : val.size ≤ 9223372036854775807) :
    Calls Tryz.prog 103 #[.agg #[.int .i64 off, .string key, .string val, .bool gone], .int .i64 lowest] w fun e w' => e = .returned (.bool (mayB ⟨off, key, val, gone⟩ && decide (lowest ≤ off))) ∧ Below w.heap.size w w' := by
  have HB : Hid (Below w.heap.size w (w.alloc (.cells #[.int .i64 off, .string key, .string val, .bool gone] 49))) := (Below.refl _ _).alloc (Nat.le_refl _) _
  have HR : RB (w.alloc (.cells #[.int .i64 off, .string key, .string val, .bool gone] 49)) w.heap.size off key val gone := heap_alloc_new _ _
  have HC : Hid (∀ W, Calls Tryz.prog 154 #[.agg #[.int .i64 off, .string key, .string val, .bool gone]] W fun e w' => e = .returned (.int .i64 (errN (mayB ⟨off, key, val, gone⟩))) ∧ Below W.heap.size W w') := fun W => check_ok off key val gone W hk hv
  obtain ⟨rb, hrb⟩ : ∃ rb, w.heap.size = rb := ⟨_, rfl⟩
  have hlt : rb < (w.alloc (.cells #[.int .i64 off, .string key, .string val, .bool gone] 49)).heap.size := by simp; omega
  rw [hrb] at HR HB
  generalize hW0 : (w.alloc (.cells #[.int .i64 off, .string key, .string val, .bool gone] 49)) = w0 at HB HR hlt
  generalize mayB ⟨off, key, val, gone⟩ = m at HC
  obtain ⟨c0, c1, c2, c3⟩ := HR.cells
  have HR' : Hid (RB w0 rb off key val gone) := HR
  clear HR
  go_enter Tryz.func103, Tryz.ntmps103
  go_upto_region 1 with fail
  clear hW0
  go_wp2_with fail
  refine (HC.out _).mono ?_
  rintro e w1 ⟨rfl, hb1⟩
  have c4 := (show RB w1 rb off key val gone from (hb1.block rb hlt).trans HR'.out).cells.1
  have HB1 : Hid (Below rb w w1) := HB.out.trans (hb1.mono (by omega))
  clear hb1 c0 c1 c2 c3
  have h0 : errN true = 0 := rfl
  have h1 : errN false = 90 := rfl
  cases m
  · rw [h1]
    go_wp2
    go_ret
    exact ⟨rfl, hrb ▸ HB1.out⟩
  · rw [h0]
    go_wp2
    go_ret
    exact ⟨rfl, hrb ▸ HB1.out⟩
/-- Do records come one behind the other, from an offset on? -/
def comes : List Rec → Int → Bool
  | [], _ => true
  | r :: L, low => (mayB r && decide (low ≤ r.off)) && comes L (r.off + 1)
/-- All their bytes. -/
def recsL (base : Int) : List Rec → List UInt8
  | [] => []
  | r :: L => recL base r ++ recsL base L
/-- What Bytes answers. -/
def bytesV (L : List Rec) (base : Int) : Value := if offB base && comes L base then .tuple #[.string (mk (recsL base L)), .int .i64 0] else .tuple #[.string ⟨#[]⟩, .int .i64 90]
theorem recL_len (base : Int) (r : Rec) (h : mayB r = true) : (recL base r).length ≤ 4190 := by
  obtain ⟨h1, h2, h3, h4⟩ := (mayB_iff r).1 h
  have a := vb_length (r.off - base).toNat
  have b := vb_length r.key.size
  have c := vb_length 0
  have d := vb_length (r.val.size + 1)
  have e := data_len r.key
  have f := data_len r.val
  unfold recL
  cases r.gone <;> simp <;> omega
theorem recsL_snoc (base : Int) (L : List Rec) (r : Rec) : recsL base (L ++ [r]) = recsL base L ++ recL base r := by
  induction L with
  | nil => simp [recsL]
  | cons x L ih => simp [recsL, ih, List.append_assoc]
theorem recsL_append (base : Int) (L M : List Rec) : recsL base (L ++ M) = recsL base L ++ recsL base M := by
  induction L with
  | nil => simp [recsL]
  | cons x L ih => simp [recsL, ih, List.append_assoc]
/-- What is lowest behind records. -/
def lowB : List Rec → Int → Int
  | [], low => low
  | r :: L, _ => lowB L (r.off + 1)
theorem comes_append (L M : List Rec) (low : Int) : comes (L ++ M) low = (comes L low && comes M (lowB L low)) := by
  induction L generalizing low with
  | nil => simp [comes, lowB]
  | cons x L ih => simp [comes, lowB, ih, Bool.and_assoc]
theorem lowB_snoc (L : List Rec) (r : Rec) (low : Int) : lowB (L ++ [r]) low = r.off + 1 := by
  induction L generalizing low with
  | nil => rfl
  | cons x L ih => exact ih _
theorem comes_mem (L : List Rec) (low : Int) (h : comes L low = true) : ∀ r ∈ L, mayB r = true := by
  induction L generalizing low with
  | nil => intro r hr; cases hr
  | cons x L ih =>
    simp only [comes, Bool.and_eq_true] at h
    intro r hr
    rcases List.mem_cons.1 hr with rfl | hr
    · exact h.1.1
    · exact ih _ h.2 r hr
theorem recsL_len (base : Int) (L : List Rec) (h : ∀ r ∈ L, mayB r = true) : (recsL base L).length ≤ 4190 * L.length := by
  induction L with
  | nil => simp [recsL]
  | cons x L ih =>
    have := ih (fun r hr => h r (List.mem_cons_of_mem _ hr))
    have := recL_len base x (h x List.mem_cons_self)
    simp only [recsL, List.length_append, List.length_cons]
    omega
end Go.Proofs.YtcjlcieheepegaaGreatDoor
namespace Go.Proofs.YtcjlcieheepegaaGreatDoor
open Go.RowKit
set_option linter.unusedVariables false
set_option maxRecDepth 20000

/-- What a round keeps. -/
structure BR (w wr : World) (b : Nat) (a : Option Addr) (base : Int) (L M : List Rec) (low : Int) : Prop where
  bs : BS wr w.heap.size b (recsL base M)
  bel : Below w.heap.size w wr
  lt : w.heap.size ≤ wr.heap.size
  low : low = lowB M base
  may : comes M base = true
  pre : ∃ T, L = M ++ T
theorem lowB_ge (M : List Rec) (base : Int) (h : comes M base = true) : base ≤ lowB M base := by
  induction M generalizing base with
  | nil => exact Int.le_refl _
  | cons r M ih =>
    simp only [comes, Bool.and_eq_true, decide_eq_true_eq] at h
    have := ih (r.off + 1) h.2
    simp only [lowB]
    omega
end Go.Proofs.YtcjlcieheepegaaGreatDoor
namespace Go.Proofs.YtcjlcieheepegaaGreatDoor
open Go.RowKit
set_option linter.unusedVariables false
set_option maxRecDepth 20000

/-- A number of k + 1 bytes stands at a text's beginning. -/
def Good (s : ByteArray) (k : Nat) : Prop := k < 9 ∧ k < s.size ∧ (∀ j, j < k → 128 ≤ byteN s j) ∧ byteN s k < 128 ∧ (byteN s k = 0 → k = 0)
theorem Good.uniq {s : ByteArray} {k m : Nat} (h : Good s k) (g : Good s m) : k = m := by
  rcases Nat.lt_trichotomy k m with hl | hl | hl
  · have := g.2.2.1 k hl; have := h.2.2.2.1; omega
  · exact hl
  · have := h.2.2.1 m hl; have := g.2.2.2.1; omega
open Classical in
/-- The number that a text begins with, and how many bytes it has. -/
noncomputable def varD (s : ByteArray) : Option (Nat × Nat) := if h : ∃ k, Good s k then some (varN s (h.choose + 1), h.choose + 1) else none
theorem varD_good {s : ByteArray} {k : Nat} (h : Good s k) : varD s = some (varN s (k + 1), k + 1) := by
  unfold varD
  rw [dif_pos ⟨k, h⟩, (Exists.choose_spec (⟨k, h⟩ : ∃ k, Good s k)).uniq h]
theorem varD_none {s : ByteArray} (h : ∀ k, ¬ Good s k) : varD s = none := by
  unfold varD
  rw [dif_neg (fun ⟨k, hk⟩ => h k hk)]
theorem varD_some {s : ByteArray} {x n : Nat} (h : varD s = some (x, n)) : ∃ k, Good s k ∧ x = varN s (k + 1) ∧ n = k + 1 := by
  by_cases hg : ∃ k, Good s k
  · obtain ⟨k, hk⟩ := hg
    rw [varD_good hk] at h
    cases h
    exact ⟨k, hk, rfl, rfl⟩
  · rw [varD_none (fun k hk => hg ⟨k, hk⟩)] at h
    cases h
theorem varD_le {s : ByteArray} {x n : Nat} (h : varD s = some (x, n)) : x ≤ 9223372036854775807 ∧ 1 ≤ n ∧ n ≤ 9 ∧ n ≤ s.size := by
  obtain ⟨k, h1, rfl, rfl⟩ := varD_some h
  exact ⟨varN_63 s (k + 1) (by have := h1.1; omega), by omega, by have := h1.1; omega, h1.2.1⟩
/-- Both readers answer by it. -/
def VarEnd (s : ByteArray) (e : Ending) : Prop := (∃ x n, varD s = some (x, n) ∧ e = .returned (.tuple #[.int .i64 (x : Nat), .int .i64 (n : Nat), .int .i64 0])) ∨ (varD s = none ∧ (e = .returned (.tuple #[.int .i64 0, .int .i64 0, .int .i64 10]) ∨ e = .returned (.tuple #[.int .i64 0, .int .i64 0, .int .i64 5])))
theorem var_ways (s : ByteArray) (hsz : s.size ≤ 9223372036854775807) : ∃ (r : Value), VarEnd s (.returned r) ∧
    (∀ w, Calls Tryz.prog 150 #[.string s] w fun e w' => e = .returned r ∧ w' = w) := by
  by_cases h : ∃ i, i < min s.size 9 ∧ byteN s i < 128
  · obtain ⟨k, hk, hb, hl⟩ := least _ h
    have hall : ∀ j, j < k → 128 ≤ byteN s j := fun j hj => by have := hl j hj; omega
    by_cases h0 : byteN s k = 0 ∧ 0 < k
    · refine ⟨_, .inr ⟨varD_none fun m hm => ?_, .inl rfl⟩, fun w => var_zero s k w (by omega) (by omega) hall h0.1 h0.2 hsz⟩
      have e : m = k := by
        rcases Nat.lt_trichotomy k m with hh | hh | hh
        · have := hm.2.2.1 k hh; omega
        · exact hh.symm
        · have := hall m hh; have := hm.2.2.2.1; omega
      subst e
      have := hm.2.2.2.2 h0.1
      omega
    · have hz : byteN s k = 0 → k = 0 := fun hh => by
        rcases Nat.eq_zero_or_pos k with e | e
        · exact e
        · exact absurd ⟨hh, e⟩ h0
      exact ⟨_, .inl ⟨_, _, varD_good ⟨by omega, by omega, hall, hb, hz⟩, rfl⟩, fun w => var_ok s k w (by omega) (by omega) hall hb hz hsz⟩
  · have hall : ∀ j, j < min s.size 9 → 128 ≤ byteN s j := fun j hj => by
      rcases Nat.lt_or_ge (byteN s j) 128 with hh | hh
      · exact absurd ⟨j, hj, hh⟩ h
      · exact hh
    have hno : varD s = none := varD_none fun m hm => by have := hall m (by have := hm.1; have := hm.2.1; omega); have := hm.2.2.2.1; omega
    by_cases hs : s.size < 9
    · exact ⟨_, .inr ⟨hno, .inr rfl⟩, fun w => var_short s w hs (fun j hj => hall j (by omega))⟩
    · exact ⟨_, .inr ⟨hno, .inl rfl⟩, fun w => var_long s w (by omega) (fun j hj => hall j (by omega)) hsz⟩
/-- What stands behind a number's bytes does not matter. -/
theorem byteN_mk (l : List UInt8) (i : Nat) : byteN (mk l) i = (l.getD i 0).toNat := by unfold byteN; rw [mk_toList]
theorem varN_congr (s t : ByteArray) (k : Nat) (h : ∀ i, i < k → byteN s i = byteN t i) : varN s k = varN t k := by
  induction k with
  | zero => rfl
  | succ k ih => simp only [varN]; rw [ih (fun i hi => h i (by omega)), h k (by omega)]
theorem varD_append {l : List UInt8} {x n : Nat} (h : varD (mk l) = some (x, n)) (m : List UInt8) : varD (mk (l ++ m)) = some (x, n) := by
  obtain ⟨k, h1, rfl, rfl⟩ := varD_some h
  have hk : k < l.length := by have := h1.2.1; rw [mk_size] at this; exact this
  have hb : ∀ i, i ≤ k → byteN (mk (l ++ m)) i = byteN (mk l) i := fun i hi => by
    rw [byteN_mk, byteN_mk, List.getD_eq_getElem?_getD, List.getD_eq_getElem?_getD, List.getElem?_append_left (by omega)]
  rw [varD_good (k := k) ⟨h1.1, by rw [mk_size, List.length_append]; omega, fun j hj => by rw [hb j (by omega)]; exact h1.2.2.1 j hj, by rw [hb k (by omega)]; exact h1.2.2.2.1, by rw [hb k (by omega)]; exact h1.2.2.2.2⟩]
  rw [varN_congr _ (mk l) (k + 1) (fun i hi => hb i (by omega))]
theorem vb_fit (n : Nat) (hn : n ≤ 9223372036854775807) : vb n = (varB 9 n).map UInt8.ofNat := by
  unfold vb; rw [varB_fuel 9 n (by omega) (by omega)]
/-- What PutVar wrote is read as the number. -/
theorem varD_vb (n : Nat) (m : List UInt8) (hn : n ≤ 9223372036854775807) : varD (mk (vb n ++ m)) = some (n, (vb n).length) := by
  obtain ⟨k, h1, h2, h3, h4, h5, h6⟩ := varB_shape 9 n (by omega) (by omega)
  have hlt := varB_lt 9 n
  have e : mk (vb n ++ m) = toBA (varB 9 n) ++ mk m := by
    rw [vb_fit n hn]
    apply ByteArray.ext
    rw [ByteArray.data_append]
    simp [mk, toBA]
  have hb : ∀ i, i < (varB 9 n).length → byteN (mk (vb n ++ m)) i = (varB 9 n).getD i 0 := fun i hi => by rw [e]; exact byteN_append _ _ _ hi hlt
  have hlen : (vb n).length = k + 1 := by rw [vb_fit n hn, List.length_map, h1]
  have hv : varN (mk (vb n ++ m)) (k + 1) = n := by
    rw [varN_gsum _ (varB 9 n) hb (k + 1) (by omega), ← h1, List.take_length, h6]
  rw [varD_good (k := k) ⟨by omega, by rw [mk_size, List.length_append, hlen]; omega, fun j hj => by rw [hb j (by omega)]; exact h3 j hj, by rw [hb k (by omega)]; exact h4, fun hz => by
    rw [hb k (by omega)] at hz
    rcases Nat.eq_zero_or_pos k with e | e
    · exact e
    · exact absurd hz (h5 e)⟩, hv, hlen]
theorem varD_nil : varD (mk []) = none := varD_none fun k hk => by have := hk.2.1; simp [mk_size] at this
end Go.Proofs.YtcjlcieheepegaaGreatDoor
