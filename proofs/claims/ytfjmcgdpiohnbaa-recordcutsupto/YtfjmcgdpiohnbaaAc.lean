/- A record's bytes are written into a builder: put. -/
import Derived.Test.YtfjmcgdpiohnbaaAb
import Derived.Deep.CutRange
namespace Go.Proofs.Ytfjmcgdpiohnbaa
open Go.RowKit
set_option linter.unusedVariables false

/-- A record's bytes by a base. -/
def recL (base : Int) (r : Rec) : List UInt8 :=
  vb (r.off - base).toNat ++ vb r.key.size ++ r.key.data.toList ++ (if r.gone then vb 0 else vb (r.val.size + 1) ++ r.val.data.toList)
/-- Block b holds a record. -/
def RB (w : World) (b : Nat) (off : Int) (key val : ByteArray) (gone : Bool) : Prop :=
  w.heap[b]? = some (.cells #[.int .i64 off, .string key, .string val, .bool gone] 28 (0, 0))
theorem RB.cells {w : World} {b : Nat} {off : Int} {key val : ByteArray} {gone : Bool} (h : RB w b off key val gone) :
    w.cell? ⟨b, 0, none⟩ = some (.int .i64 off) ∧ w.cell? ⟨b, 1, none⟩ = some (.string key) ∧ w.cell? ⟨b, 2, none⟩ = some (.string val) ∧ w.cell? ⟨b, 3, none⟩ = some (.bool gone) := by
  unfold RB at h
  exact ⟨by simp [World.cell?, h], by simp [World.cell?, h], by simp [World.cell?, h], by simp [World.cell?, h]⟩
theorem RB.kept {w w' : World} {B b rb : Nat} {off : Int} {key val : ByteArray} {gone : Bool} (h : RB w rb off key val gone) (hne : rb ≠ b) (hf : BF B b w w') : RB w' rb off key val gone :=
  hf.kept rb _ h (by simpa using hne) (fun c fz e => by cases e)
theorem data_len (s : ByteArray) : s.data.toList.length = s.size := by rw [Array.length_toList]; rfl
set_option maxHeartbeats 1000000 in
theorem put_ok (B b : Nat) (l : List UInt8) (off base : Int) (key val : ByteArray) (gone : Bool) (w : World) (h : BS w B b l) (h0 : 0 ≤ base) (h1 : base ≤ off) (h2 : off < 1099511627776) (hk : key.size ≤ 64) (hv : val.size ≤ 4096) (hlen : l.length + 5000 ≤ 140737488355328) (hB : B ≤ w.heap.size) :
    Calls Try.prog 20 #[.pointer (some ⟨b, 0, none⟩), .agg #[.int .i64 off, .string key, .string val, .bool gone], .int .i64 base] w fun e w' => e = .returned (.tuple #[]) ∧ BS w' B b (l ++ recL base ⟨off, key, val, gone⟩) ∧ BF B b w w' := by
  obtain ⟨n, hn⟩ : ∃ n : Nat, off - base = n := Int.eq_ofNat_of_zero_le (by omega)
  have HE : Hid (recL base ⟨off, key, val, gone⟩ = vb n ++ vb key.size ++ key.data.toList ++ (if gone then vb 0 else vb (val.size + 1) ++ val.data.toList)) := by
    show vb (off - base).toNat ++ _ ++ _ ++ _ = _
    rw [hn]; rfl
  have hlt := h.lt
  have HB0 : Below w.heap.size w (w.alloc (.cells #[.int .i64 off, .string key, .string val, .bool gone] 28)) := (Below.refl _ _).alloc (Nat.le_refl _) _
  have HW : Hid (BS (w.alloc (.cells #[.int .i64 off, .string key, .string val, .bool gone] 28)) B b l) := h.below HB0
  have HR : Hid (RB (w.alloc (.cells #[.int .i64 off, .string key, .string val, .bool gone] 28)) w.heap.size off key val gone) := heap_alloc_new _ _
  have HF : Hid (BF B b w (w.alloc (.cells #[.int .i64 off, .string key, .string val, .bool gone] 28))) := BF.of_below HB0 hB
  have hne : w.heap.size ≠ b := by omega
  have hB1 : B ≤ (w.alloc (.cells #[.int .i64 off, .string key, .string val, .bool gone] 28)).heap.size := by simp; omega
  have hn1 : n ≤ 9223372036854775807 := by omega
  have v1 := vb_length n
  have v2 := vb_length key.size
  have v3 := vb_length 0
  have v4 := vb_length (val.size + 1)
  have d1 := data_len key
  have HL : Hid (l.length + 5000 ≤ 140737488355328 ∧ (vb n).length ≤ 10 ∧ (vb key.size).length ≤ 10 ∧ key.data.toList.length = key.size ∧ (vb (val.size + 1)).length ≤ 10) := ⟨hlen, v1, v2, d1, v4⟩
  clear h HB0 v1 v2 v3 v4 d1 hlen hlt
  obtain ⟨rb, hrb⟩ : ∃ rb, w.heap.size = rb := ⟨_, rfl⟩
  rw [hrb] at HR hne
  generalize hW0 : (w.alloc (.cells #[.int .i64 off, .string key, .string val, .bool gone] 28)) = w0 at HW HR HF hB1
  have c0 := HR.out.cells.1
  go_enter Try.func20, Try.ntmps20
  go_upto_region 1 with fail
  clear hW0
  go_wp2_with fail
  refine (putNumber_ok B b l n _ HW.out hn1 (by have := HL.out; omega) hB1).mono ?_
  rintro e w1 ⟨rfl, g1, g2⟩
  have HF1 : Hid (BF B b w w1) := HF.out.trans g2
  have HR1 : Hid (RB w1 rb off key val gone) := HR.out.kept hne g2
  have HW1 : Hid (BS w1 B b (l ++ vb n)) := g1
  have hB2 : B ≤ w1.heap.size := Nat.le_trans hB1 g2.size
  clear g1 g2 hB1 HW HR HF c0
  have c1 := HR1.out.cells.2.1
  go_wp2_with fail
  refine (putNumber_ok B b _ key.size _ HW1.out (by omega) (by have := HL.out; simp only [List.length_append]; omega) hB2).mono ?_
  rintro e w2 ⟨rfl, g1, g2⟩
  have HF2 : Hid (BF B b w w2) := HF1.out.trans g2
  have HR2 : Hid (RB w2 rb off key val gone) := HR1.out.kept hne g2
  have HW2 : Hid (BS w2 B b (l ++ vb n ++ vb key.size)) := g1
  have hB3 : B ≤ w2.heap.size := Nat.le_trans hB2 g2.size
  clear g1 g2 hB2 HW1 HR1 HF1 c1
  have c1 := HR2.out.cells.2.1
  go_wp2_with fail
  refine (write_ok B b _ key _ HW2.out (by have := HL.out; simp only [List.length_append]; omega) hB3).mono ?_
  rintro e w3 ⟨rfl, g1, g2⟩
  have HF3 : Hid (BF B b w w3) := HF2.out.trans g2
  have HR3 : Hid (RB w3 rb off key val gone) := HR2.out.kept hne g2
  have HW3 : Hid (BS w3 B b (l ++ vb n ++ vb key.size ++ key.data.toList)) := g1
  have hB4 : B ≤ w3.heap.size := Nat.le_trans hB3 g2.size
  clear g1 g2 hB3 HW2 HR2 HF2 c1
  have c2 := HR3.out.cells.2.2.1
  have c3 := HR3.out.cells.2.2.2
  cases gone
  · go_wp2_with fail
    refine (putNumber_ok B b _ (val.size + 1) _ HW3.out (by omega) (by have := HL.out; simp only [List.length_append]; omega) hB4).mono ?_
    rintro e w4 ⟨rfl, g1, g2⟩
    have HF4 : Hid (BF B b w w4) := HF3.out.trans g2
    have HR4 : Hid (RB w4 rb off key val false) := HR3.out.kept hne g2
    have HW4 : Hid (BS w4 B b (l ++ vb n ++ vb key.size ++ key.data.toList ++ vb (val.size + 1))) := g1
    have hB5 : B ≤ w4.heap.size := Nat.le_trans hB4 g2.size
    clear g1 g2 hB4 HW3 HR3 HF3 c2 c3
    have c2 := HR4.out.cells.2.2.1
    go_wp2_with fail
    refine (write_ok B b _ val _ HW4.out (by have := HL.out; simp only [List.length_append]; omega) hB5).mono ?_
    rintro e w5 ⟨rfl, g1, g2⟩
    have HF5 : Hid (BF B b w w5) := HF4.out.trans g2
    have HW5 : Hid (BS w5 B b (l ++ vb n ++ vb key.size ++ key.data.toList ++ vb (val.size + 1) ++ val.data.toList)) := g1
    clear g1 g2
    go_wp2
    first | go_ret | go_end0 | skip
    refine ⟨rfl, ?_, HF5.out⟩
    rw [HE.out]
    have := HW5.out
    simpa [List.append_assoc] using this
  · go_wp2_with fail
    refine (putNumber_ok B b _ 0 _ HW3.out (by omega) (by have := HL.out; simp only [List.length_append]; omega) hB4).mono ?_
    rintro e w4 ⟨rfl, g1, g2⟩
    have HF4 : Hid (BF B b w w4) := HF3.out.trans g2
    have HW4 : Hid (BS w4 B b (l ++ vb n ++ vb key.size ++ key.data.toList ++ vb 0)) := g1
    clear g1 g2
    go_wp2
    refine bodyPost_ret (v := .tuple #[]) (by simp [results, Try.results20]) rfl ⟨rfl, ?_, HF4.out⟩
    rw [HE.out]
    have := HW4.out
    simpa [List.append_assoc] using this
end Go.Proofs.Ytfjmcgdpiohnbaa
