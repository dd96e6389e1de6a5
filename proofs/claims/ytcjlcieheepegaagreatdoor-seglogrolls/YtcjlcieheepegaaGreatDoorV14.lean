/- The closure that reads the next record. -/
/- Records out of bytes, as a plain function; what next reads by it. -/
/- The records of bytes: Of. -/
import Derived.Test.YtcjlcieheepegaaGreatDoorV13
import Derived.Deep.CutRange
import Derived.Deep.RegionHeldLaw
import Derived.Deep.AppendLies
namespace Go.Proofs.YtcjlcieheepegaaGreatDoor
open Go.RowKit
set_option linter.unusedVariables false
set_option maxRecDepth 20000

def NumN (s : ByteArray) (x : Nat) (t : ByteArray) (g : Bool) : Prop :=
  (∃ n, varD s = some (x, n) ∧ t = s.extract n s.size ∧ g = true) ∨ (varD s = none ∧ x = 0 ∧ t.size ≤ s.size ∧ g = false)
theorem number_nat (B : Nat) (base : Int) (s : ByteArray) (ok : Bool) (w : World) (h : RDS w B base s ok) (hsz : s.size ≤ 9223372036854775807) :
    Calls Tryz.prog 149 #[.pointer (some ⟨B + 1, 0, none⟩), .pointer (some ⟨B + 2, 0, none⟩)] w fun e w' => ∃ (x : Nat) (t : ByteArray) (g : Bool), e = .returned (.int .i64 x) ∧ NumN s x t g ∧ RDS w' B base t (ok && g) ∧ NF B w w' := by
  refine (number_ok B base s ok w h hsz).mono ?_
  rintro e w' ⟨x, t, g, hn, rfl, h1, h2⟩
  rcases hn with ⟨X, n, a, rfl, b, c⟩ | ⟨a, rfl, b, c⟩
  · exact ⟨X, t, g, rfl, .inl ⟨n, a, b, c⟩, h1, h2⟩
  · exact ⟨0, t, g, rfl, .inr ⟨a, rfl, b, c⟩, h1, h2⟩
theorem NumN.le {s : ByteArray} {x : Nat} {t : ByteArray} {g : Bool} (h : NumN s x t g) : x ≤ 9223372036854775807 ∧ t.size ≤ s.size := by
  rcases h with ⟨n, a, rfl, _⟩ | ⟨_, rfl, b, _⟩
  · exact ⟨(varD_le a).1, by rw [ByteArray.size_extract]; omega⟩
  · exact ⟨by omega, b⟩
theorem TextE.le {s : ByteArray} {n : Nat} {p t : ByteArray} {g : Bool} (h : TextE s n p t g) : t.size ≤ s.size ∧ p.size ≤ s.size := by
  rcases h with ⟨a, rfl, rfl, _⟩ | ⟨a, rfl, rfl, _⟩
  · exact ⟨by rw [ByteArray.size_extract]; omega, by rw [ByteArray.size_extract]; omega⟩
  · exact ⟨Nat.le_refl _, Nat.zero_le _⟩
/-- How the next record is read. -/
def NextE (base : Int) (s : ByteArray) (off : Int) (key val : ByteArray) (gone : Bool) (t : ByteArray) (ok : Bool) : Prop :=
  ∃ (x1 : Nat) (s1 : ByteArray) (g1 : Bool) (x2 : Nat) (s2 : ByteArray) (g2 : Bool) (s3 : ByteArray) (g3 : Bool) (x3 : Nat) (s4 : ByteArray) (g4 : Bool),
    NumN s x1 s1 g1 ∧ NumN s1 x2 s2 g2 ∧ TextE s2 x2 key s3 g3 ∧ NumN s3 x3 s4 g4 ∧ off = IntKind.i64.wrap (base + x1) ∧
    ((x3 = 0 ∧ gone = true ∧ val = ⟨#[]⟩ ∧ t = s4 ∧ ok = (g1 && g2 && g3 && g4)) ∨ (x3 ≠ 0 ∧ gone = false ∧ ∃ g5, TextE s4 (x3 - 1) val t g5 ∧ ok = (g1 && g2 && g3 && g4 && g5)))
/-- A block that holds a record, where a reading goes on. -/
theorem RB.nf {w w' : World} {B rb : Nat} {off : Int} {key val : ByteArray} {gone : Bool} (h : RB w rb off key val gone) (h1 : B + 4 < rb) (hf : NF B w w') : RB w' rb off key val gone :=
  (hf.block rb (lt_of_block h) (by omega) (by omega)).trans h
theorem RB.frozen {w : World} {rb : Nat} {off : Int} {key val : ByteArray} {gone : Bool} (h : RB w rb off key val gone) (i : Nat) : w.frozen? ⟨rb, i, none⟩ = false := by
  unfold RB at h
  simp [World.frozen?, h]
theorem RB.set0 {w : World} {rb : Nat} {off : Int} {key val : ByteArray} {gone : Bool} (h : RB w rb off key val gone) (x : Int) : RB (w.setCell ⟨rb, 0, none⟩ (.int .i64 x)) rb x key val gone :=
  (block_setCell h).trans (by simp)
theorem RB.set1 {w : World} {rb : Nat} {off : Int} {key val : ByteArray} {gone : Bool} (h : RB w rb off key val gone) (x : ByteArray) : RB (w.setCell ⟨rb, 1, none⟩ (.string x)) rb off x val gone :=
  (block_setCell h).trans (by simp)
theorem RB.set2 {w : World} {rb : Nat} {off : Int} {key val : ByteArray} {gone : Bool} (h : RB w rb off key val gone) (x : ByteArray) : RB (w.setCell ⟨rb, 2, none⟩ (.string x)) rb off key x gone :=
  (block_setCell h).trans (by simp)
theorem RB.set3 {w : World} {rb : Nat} {off : Int} {key val : ByteArray} {gone : Bool} (h : RB w rb off key val gone) (x : Bool) : RB (w.setCell ⟨rb, 3, none⟩ (.bool x)) rb off key val x :=
  (block_setCell h).trans (by simp)
theorem RDS.other {w : World} {B : Nat} {base : Int} {s : ByteArray} {ok : Bool} (h : RDS w B base s ok) {rb i : Nat} (hr : B + 4 < rb) (u : Value) : RDS (w.setCell ⟨rb, i, none⟩ u) B base s ok :=
  ⟨(Below.heap_setCell _ _ _ _ (by show B ≠ rb; omega)).trans h.hb, (Below.heap_setCell _ _ _ _ (by show B + 1 ≠ rb; omega)).trans h.hr, (Below.heap_setCell _ _ _ _ (by show B + 2 ≠ rb; omega)).trans h.ho, (Below.heap_setCell _ _ _ _ (by show B + 3 ≠ rb; omega)).trans h.hn, (Below.heap_setCell _ _ _ _ (by show B + 4 ≠ rb; omega)).trans h.ht⟩
/-- From a world on, all but what is left, whether all went well and blocks from C on is as it was. -/
structure NG (B C : Nat) (w w' : World) : Prop where
  os : w'.os = w.os
  tape : w'.tape = w.tape
  output : w'.output = w.output
  size : w.heap.size ≤ w'.heap.size
  block : ∀ k, k < C → k ≠ B + 1 → k ≠ B + 2 → w'.heap[k]? = w.heap[k]?
theorem NG.nf {B C : Nat} {u v w : World} (h : NG B C u v) (k : NF B v w) (hC : C ≤ v.heap.size) : NG B C u w :=
  ⟨k.os.trans h.os, k.tape.trans h.tape, k.output.trans h.output, Nat.le_trans h.size k.size, fun i hl h1 h2 => (k.block i (by omega) h1 h2).trans (h.block i hl h1 h2)⟩
theorem NG.set {B C : Nat} {u v : World} (h : NG B C u v) {rb i : Nat} (hr : C ≤ rb) (x : Value) : NG B C u (v.setCell ⟨rb, i, none⟩ x) :=
  ⟨h.os, h.tape, h.output, by simpa [World.setCell] using h.size, fun k hl h1 h2 => (Below.heap_setCell _ _ _ _ (by show k ≠ rb; omega)).trans (h.block k hl h1 h2)⟩
theorem NG.drew {B C : Nat} {u v : World} (h : NG B C u v) : NG B C u v.drew := ⟨h.os, h.tape, h.output, h.size, h.block⟩
set_option maxHeartbeats 2000000 in
theorem next_ok (B : Nat) (base : Int) (s : ByteArray) (w : World) (h : RDS w B base s true) (hsz : s.size ≤ 140737488355328) (hb0 : 0 ≤ base) (hb1 : base < 1099511627776) :
    Calls Tryz.prog 152 #[pv B, pv (B + 3), pv (B + 4), pv (B + 2)] w fun e w' => ∃ off key val gone t ok, e = .returned (.tuple #[.agg #[.int .i64 off, .string key, .string val, .bool gone], .bool ok]) ∧ NextE base s off key val gone t ok ∧ RDS w' B base t ok ∧ NF B w w' := by
  have hlt := h.lt
  obtain ⟨q, hq⟩ : ∃ q, w.heap.size = q := ⟨_, rfl⟩
  obtain ⟨rb, hrb⟩ : ∃ rb, q + 1 = rb := ⟨_, rfl⟩
  obtain ⟨o, ho⟩ : ∃ o, Obj.cells #[Value.int .i64 0, Value.string ⟨#[]⟩, Value.string ⟨#[]⟩, Value.bool false] 49 = o := ⟨_, rfl⟩
  have hB1 : Below w.heap.size w (w.alloc o) := (Below.refl _ _).alloc (Nat.le_refl _) _
  have hB2 : Below (w.alloc o).heap.size (w.alloc o) ((w.alloc o).alloc o) := (Below.refl _ _).alloc (Nat.le_refl _) _
  have HR0 : Hid (RDS ((w.alloc o).alloc o) B base s true) := (h.below hB1).below hB2
  have HQ : Hid (RB ((w.alloc o).alloc o) q 0 ⟨#[]⟩ ⟨#[]⟩ false) := by
    subst hq ho
    exact (hB2.block _ (by simp)).trans (heap_alloc_new _ _)
  have HRB : Hid (RB ((w.alloc o).alloc o) rb 0 ⟨#[]⟩ ⟨#[]⟩ false) := by
    subst hrb hq ho
    rw [show w.heap.size + 1 = (w.alloc (Obj.cells #[Value.int .i64 0, Value.string ⟨#[]⟩, Value.string ⟨#[]⟩, Value.bool false] 49)).heap.size by simp]
    exact heap_alloc_new _ _
  have HG : Hid (NG B q w ((w.alloc o).alloc o)) := ⟨rfl, rfl, rfl, by simp; omega, fun k hk _ _ => by
    rw [hB2.block k (by simp; omega), hB1.block k (by omega)]⟩
  have hS0 : q ≤ ((w.alloc o).alloc o).heap.size := by simp; omega
  generalize hw0 : (w.alloc o).alloc o = w0 at HR0 HQ HRB HG hS0
  clear h hB1 hB2
  unfold pv
  go_enter Tryz.func152, Tryz.ntmps152
  go_upto_region 2 with fail
  clear hw0 ho o
  have hrB : B + 4 < rb := by omega
  have hqr : q ≤ rb := by omega
  obtain ⟨c0, c1, c2, c3, c4, f1, f2⟩ := HR0.out.cells
  unfold numV at c3
  unfold textV at c4
  unfold pv at c3 c4
  have HN0 : Hid (∀ W, RDS W B base s true → Calls Tryz.prog 149 #[.pointer (some ⟨B + 1, 0, none⟩), .pointer (some ⟨B + 2, 0, none⟩)] W fun e w' => ∃ (x : Nat) (t : ByteArray) (g : Bool), e = .returned (.int .i64 x) ∧ NumN s x t g ∧ RDS w' B base t (true && g) ∧ NF B W w') := fun W hW => number_nat B base s true W hW (by omega)
  go_region_held_law (fun w' => w'.cell? ⟨B, 0, none⟩ = some (.int .i64 base) ∧ w'.cell? ⟨B + 3, 0, none⟩ = some (.func (.func 149) #[] #[.pointer (some ⟨B + 1, 0, none⟩), .pointer (some ⟨B + 2, 0, none⟩)]))
    (first | assumption | exact HK _ | go_keep)
    (first
      | (go_at_call 149; refine (HN0.out _ HR0.out.drew).mono ?_; rintro e w1 ⟨x1, s1, g1, rfl, hN1, hR1, hF1⟩; have KS := (⟨hR1.cells.1, hR1.cells.2.2.2.1⟩ : w1.cell? ⟨B, 0, none⟩ = some (.int .i64 base) ∧ w1.cell? ⟨B + 3, 0, none⟩ = some (.func (.func 149) #[] #[.pointer (some ⟨B + 1, 0, none⟩), .pointer (some ⟨B + 2, 0, none⟩)])); have HR1 : Hid (RDS w1 B base s1 (true && g1)) := hR1; have HN1 : Hid (NumN s x1 s1 g1) := hN1; have HRB1 : Hid (RB w1 rb 0 ⟨#[]⟩ ⟨#[]⟩ false) := HRB.out.nf hrB hF1.undrew; have HQ1 : Hid (RB w1 q 0 ⟨#[]⟩ ⟨#[]⟩ false) := HQ.out.nf (by omega) hF1.undrew; have HG1 : Hid (NG B q w w1) := HG.out.nf hF1.undrew hS0; have hS1 : q ≤ w1.heap.size := Nat.le_trans hS0 hF1.undrew.size; have r0 := HRB1.out.cells.1; have rf := HRB1.out.frozen 0; have HK := (fun u => ⟨(HR1.out.other hrB u).cells.1, (HR1.out.other hrB u).cells.2.2.2.1⟩ : ∀ u, (w1.setCell ⟨rb, 0, none⟩ u).cell? ⟨B, 0, none⟩ = some (.int .i64 base) ∧ (w1.setCell ⟨rb, 0, none⟩ u).cell? ⟨B + 3, 0, none⟩ = some (.func (.func 149) #[] #[.pointer (some ⟨B + 1, 0, none⟩), .pointer (some ⟨B + 2, 0, none⟩)])); clear hN1 hR1 hF1))
  obtain ⟨y1, hy1⟩ : ∃ y, IntKind.i64.wrap (base + x1) = y := ⟨_, rfl⟩
  have HY1 : Hid (IntKind.i64.wrap (base + x1) = y1) := hy1
  rw [hy1]
  clear hy1 HK KS r0 rf c0 c1 c2 c3 c4 f1 f2
  have HR2 : Hid (RDS (w1.setCell ⟨rb, 0, none⟩ (.int .i64 y1)) B base s1 (true && g1)) := HR1.out.other hrB _
  have HRB2 : Hid (RB (w1.setCell ⟨rb, 0, none⟩ (.int .i64 y1)) rb y1 ⟨#[]⟩ ⟨#[]⟩ false) := HRB1.out.set0 _
  have HQ2 : Hid (RB (w1.setCell ⟨rb, 0, none⟩ (.int .i64 y1)) q 0 ⟨#[]⟩ ⟨#[]⟩ false) := (Below.heap_setCell _ _ _ _ (by show q ≠ rb; omega)).trans HQ1.out
  have HG2 : Hid (NG B q w (w1.setCell ⟨rb, 0, none⟩ (.int .i64 y1))) := HG1.out.set hqr _
  have hS2 : q ≤ (w1.setCell ⟨rb, 0, none⟩ (.int .i64 y1)).heap.size := by simpa [World.setCell] using hS1
  generalize hw2 : w1.setCell ⟨rb, 0, none⟩ (.int .i64 y1) = w2 at HR2 HRB2 HQ2 HG2 hS2
  clear HR1 HRB1 HQ1 HG1 hS1 HR0 HQ HRB HG hS0 hw2
  have hz1 : s1.size ≤ 140737488355328 := Nat.le_trans HN1.out.le.2 hsz
  obtain ⟨c0, c1, c2, c3, c4, f1, f2⟩ := HR2.out.cells
  unfold numV at c3
  unfold textV at c4
  unfold pv at c3 c4
  have HN2 : Hid (∀ W, RDS W B base s1 (true && g1) → Calls Tryz.prog 149 #[.pointer (some ⟨B + 1, 0, none⟩), .pointer (some ⟨B + 2, 0, none⟩)] W fun e w' => ∃ (x : Nat) (t : ByteArray) (g : Bool), e = .returned (.int .i64 x) ∧ NumN s1 x t g ∧ RDS w' B base t (true && g1 && g) ∧ NF B W w') := fun W hW => number_nat B base s1 _ W hW (by omega)
  have HT2 : Hid (∀ W s2 x2 g2, NumN s1 x2 s2 g2 → RDS W B base s2 (true && g1 && g2) → Calls Tryz.prog 151 #[.int .i64 (x2 : Nat), .pointer (some ⟨B + 1, 0, none⟩), .pointer (some ⟨B + 2, 0, none⟩)] W fun e w' => ∃ p t g, TextE s2 x2 p t g ∧ e = .returned (.string p) ∧ RDS w' B base t (true && g1 && g2 && g) ∧ NF B W w') := fun W s2 x2 g2 hN hW => text_ok B base s2 _ x2 W hW (by have := hN.le; omega) hN.le.1
  go_wp2_with fail
  go_region_held_law (fun w' => w'.cell? ⟨B + 3, 0, none⟩ = some (.func (.func 149) #[] #[.pointer (some ⟨B + 1, 0, none⟩), .pointer (some ⟨B + 2, 0, none⟩)]) ∧ w'.cell? ⟨B + 4, 0, none⟩ = some (.func (.func 151) #[] #[.pointer (some ⟨B + 1, 0, none⟩), .pointer (some ⟨B + 2, 0, none⟩)]))
    (first | assumption | exact HK _ | go_keep)
    (first
      | (go_at_call 149; refine (HN2.out _ HR2.out.drew).mono ?_; rintro e w3 ⟨x2, s2, g2, rfl, hN2, hR3, hF3⟩; have KS := (⟨hR3.cells.2.2.2.1, hR3.cells.2.2.2.2.1⟩ : w3.cell? ⟨B + 3, 0, none⟩ = some (.func (.func 149) #[] #[.pointer (some ⟨B + 1, 0, none⟩), .pointer (some ⟨B + 2, 0, none⟩)]) ∧ w3.cell? ⟨B + 4, 0, none⟩ = some (.func (.func 151) #[] #[.pointer (some ⟨B + 1, 0, none⟩), .pointer (some ⟨B + 2, 0, none⟩)])); have HR3 : Hid (RDS w3 B base s2 (true && g1 && g2)) := hR3; have HNN2 : Hid (NumN s1 x2 s2 g2) := hN2; have HRB3 : Hid (RB w3 rb y1 ⟨#[]⟩ ⟨#[]⟩ false) := HRB2.out.nf hrB hF3.undrew; have HQ3 : Hid (RB w3 q 0 ⟨#[]⟩ ⟨#[]⟩ false) := HQ2.out.nf (by omega) hF3.undrew; have HG3 : Hid (NG B q w w3) := HG2.out.nf hF3.undrew hS2; have hS3 : q ≤ w3.heap.size := Nat.le_trans hS2 hF3.undrew.size; clear hN2 hR3 hF3)
      | (go_at_call 151; refine (HT2.out _ _ _ _ HNN2.out HR3.out).mono ?_; rintro e w4 ⟨p, s3, g3, hT, rfl, hR4, hF4⟩; have KS4 := (⟨hR4.cells.2.2.2.1, hR4.cells.2.2.2.2.1⟩ : w4.cell? ⟨B + 3, 0, none⟩ = some (.func (.func 149) #[] #[.pointer (some ⟨B + 1, 0, none⟩), .pointer (some ⟨B + 2, 0, none⟩)]) ∧ w4.cell? ⟨B + 4, 0, none⟩ = some (.func (.func 151) #[] #[.pointer (some ⟨B + 1, 0, none⟩), .pointer (some ⟨B + 2, 0, none⟩)])); have HR4 : Hid (RDS w4 B base s3 (true && g1 && g2 && g3)) := hR4; have HT3 : Hid (TextE s2 x2 p s3 g3) := hT; have HRB4 : Hid (RB w4 rb y1 ⟨#[]⟩ ⟨#[]⟩ false) := HRB3.out.nf hrB hF4; have HQ4 : Hid (RB w4 q 0 ⟨#[]⟩ ⟨#[]⟩ false) := HQ3.out.nf (by omega) hF4; have HG4 : Hid (NG B q w w4) := HG3.out.nf hF4 hS3; have hS4 : q ≤ w4.heap.size := Nat.le_trans hS3 hF4.size; have r1 := HRB4.out.cells.2.1; have rf := HRB4.out.frozen 1; have HK := (fun u => ⟨(HR4.out.other hrB u).cells.2.2.2.1, (HR4.out.other hrB u).cells.2.2.2.2.1⟩ : ∀ u, (w4.setCell ⟨rb, 1, none⟩ u).cell? ⟨B + 3, 0, none⟩ = some (.func (.func 149) #[] #[.pointer (some ⟨B + 1, 0, none⟩), .pointer (some ⟨B + 2, 0, none⟩)]) ∧ (w4.setCell ⟨rb, 1, none⟩ u).cell? ⟨B + 4, 0, none⟩ = some (.func (.func 151) #[] #[.pointer (some ⟨B + 1, 0, none⟩), .pointer (some ⟨B + 2, 0, none⟩)])); clear hT hR4 hF4))
  clear HK KS KS4 r1 rf c0 c1 c2 c3 c4 f1 f2
  have HR5 : Hid (RDS (w4.setCell ⟨rb, 1, none⟩ (.string p)) B base s3 (true && g1 && g2 && g3)) := HR4.out.other hrB _
  have HRB5 : Hid (RB (w4.setCell ⟨rb, 1, none⟩ (.string p)) rb y1 p ⟨#[]⟩ false) := HRB4.out.set1 _
  have HQ5 : Hid (RB (w4.setCell ⟨rb, 1, none⟩ (.string p)) q 0 ⟨#[]⟩ ⟨#[]⟩ false) := (Below.heap_setCell _ _ _ _ (by show q ≠ rb; omega)).trans HQ4.out
  have HG5 : Hid (NG B q w (w4.setCell ⟨rb, 1, none⟩ (.string p))) := HG4.out.set hqr _
  have hS5 : q ≤ (w4.setCell ⟨rb, 1, none⟩ (.string p)).heap.size := by simpa [World.setCell] using hS4
  generalize hw5 : w4.setCell ⟨rb, 1, none⟩ (.string p) = w5 at HR5 HRB5 HQ5 HG5 hS5
  clear HR4 HRB4 HQ4 HG4 hS4 HR3 HRB3 HQ3 HG3 hS3 HR2 HRB2 HQ2 HG2 hS2 hw5 HT2 HN2 HN0
  have hz3 : s3.size ≤ 140737488355328 := by have := HT3.out.le; have := HNN2.out.le; omega
  obtain ⟨c0, c1, c2, c3, c4, f1, f2⟩ := HR5.out.cells
  unfold numV at c3
  unfold textV at c4
  unfold pv at c3 c4
  go_wp2_with fail
  refine (number_nat B base s3 _ _ HR5.out (by omega)).mono ?_
  rintro e w6 ⟨x3, s4, g4, rfl, hN4, hR6, hF6⟩
  have HR6 : Hid (RDS w6 B base s4 (true && g1 && g2 && g3 && g4)) := hR6
  have HN4 : Hid (NumN s3 x3 s4 g4) := hN4
  have HRB6 : Hid (RB w6 rb y1 p ⟨#[]⟩ false) := HRB5.out.nf hrB hF6
  have HQ6 : Hid (RB w6 q 0 ⟨#[]⟩ ⟨#[]⟩ false) := HQ5.out.nf (by omega) hF6
  have HG6 : Hid (NG B q w w6) := HG5.out.nf hF6 hS5
  have hS6 : q ≤ w6.heap.size := Nat.le_trans hS5 hF6.size
  have hx3 : x3 ≤ 9223372036854775807 := hN4.le.1
  have hz4 : s4.size ≤ 140737488355328 := by have := hN4.le; omega
  clear hN4 hR6 hF6 HR5 HRB5 HQ5 HG5 hS5 c0 c1 c2 c3 c4 f1 f2
  obtain ⟨c0, c1, c2, c3, c4, f1, f2⟩ := HR6.out.cells
  unfold numV at c3
  unfold textV at c4
  unfold pv at c3 c4
  obtain ⟨r0, r1, r2, r3⟩ := HRB6.out.cells
  have rf3 := HRB6.out.frozen 3
  have rf2 := HRB6.out.frozen 2
  by_cases h0 : x3 = 0
  · subst h0
    have HR7 : Hid (RDS (w6.setCell ⟨rb, 3, none⟩ (.bool true)) B base s4 (true && g1 && g2 && g3 && g4)) := HR6.out.other hrB _
    have HRB7 : Hid (RB (w6.setCell ⟨rb, 3, none⟩ (.bool true)) rb y1 p ⟨#[]⟩ true) := HRB6.out.set3 _
    have HQ7 : Hid (RB (w6.setCell ⟨rb, 3, none⟩ (.bool true)) q 0 ⟨#[]⟩ ⟨#[]⟩ false) := (Below.heap_setCell _ _ _ _ (by show q ≠ rb; omega)).trans HQ6.out
    have HG7 : Hid (NG B q w (w6.setCell ⟨rb, 3, none⟩ (.bool true))) := HG6.out.set hqr _
    have hS7 : q ≤ (w6.setCell ⟨rb, 3, none⟩ (.bool true)).heap.size := by simpa [World.setCell] using hS6
    generalize hw7 : w6.setCell ⟨rb, 3, none⟩ (.bool true) = w7 at HR7 HRB7 HQ7 HG7 hS7
    go_wp2_with fail
    clear hw7 HR6 HRB6 HQ6 HG6 hS6 c0 c1 c2 c3 c4 f1 f2 r0 r1 r2 r3 rf3 rf2
    obtain ⟨c0, c1, c2, c3, c4, f1, f2⟩ := HR7.out.cells
    clear c0 c1 c3 c4 f1 f2
    obtain ⟨r0, r1, r2, r3⟩ := HRB7.out.cells
    obtain ⟨q0, q1, q2, q3⟩ := HQ7.out.cells
    have qf0 := HQ7.out.frozen 0
    have qf1 := HQ7.out.frozen 1
    have qf2 := HQ7.out.frozen 2
    have qf3 := HQ7.out.frozen 3
    have hqr' : ¬ q = rb := by omega
    have hrq' : ¬ rb = q := by omega
    have hqb : ¬ q = B + 2 := by omega
    have hbq : ¬ B + 2 = q := by omega
    have HR8 : Hid (RDS (((((w7.setCell ⟨q, 0, none⟩ (.int .i64 y1)).setCell ⟨q, 1, none⟩ (.string p)).setCell ⟨q, 2, none⟩ (.string ⟨#[]⟩)).setCell ⟨q, 3, none⟩ (.bool true)).drew) B base s4 (true && g1 && g2 && g3 && g4)) := ((((HR7.out.other (by omega) _).other (by omega) _).other (by omega) _).other (by omega) _).drew
    have HQ8 : Hid (RB (((((w7.setCell ⟨q, 0, none⟩ (.int .i64 y1)).setCell ⟨q, 1, none⟩ (.string p)).setCell ⟨q, 2, none⟩ (.string ⟨#[]⟩)).setCell ⟨q, 3, none⟩ (.bool true)).drew) q y1 p ⟨#[]⟩ true) := (((HQ7.out.set0 _).set1 _).set2 _).set3 _
    have HG8 : Hid (NG B q w (((((w7.setCell ⟨q, 0, none⟩ (.int .i64 y1)).setCell ⟨q, 1, none⟩ (.string p)).setCell ⟨q, 2, none⟩ (.string ⟨#[]⟩)).setCell ⟨q, 3, none⟩ (.bool true)).drew)) := ((((HG7.out.set (Nat.le_refl _) _).set (Nat.le_refl _) _).set (Nat.le_refl _) _).set (Nat.le_refl _) _).drew
    go_region
    generalize hw8 : ((((w7.setCell ⟨q, 0, none⟩ (.int .i64 y1)).setCell ⟨q, 1, none⟩ (.string p)).setCell ⟨q, 2, none⟩ (.string ⟨#[]⟩)).setCell ⟨q, 3, none⟩ (.bool true)).drew = w8 at HR8 HQ8 HG8
    clear hw8 r0 r1 r2 r3 q0 q1 q2 q3 qf0 qf1 qf2 qf3 c2
    obtain ⟨q0, q1, q2, q3⟩ := HQ8.out.cells
    go_wp2
    refine bodyPost_ret (v := .tuple #[.agg #[.int .i64 y1, .string p, .string ⟨#[]⟩, .bool true], .bool (g1 && g2 && g3 && g4)]) ?_ rfl ?_
    · simp [results, Tryz.results152, go_sem, q0, q1, q2, q3]
    · refine ⟨y1, p, _, _, s4, _, rfl, ⟨x1, s1, g1, x2, s2, g2, s3, g3, 0, s4, g4, HN1.out, HNN2.out, HT3.out, HN4.out, HY1.out.symm, .inl ⟨rfl, rfl, rfl, rfl, rfl⟩⟩, ?_, ?_⟩
      · have := HR8.out
        rw [Bool.true_and] at this
        exact this
      · exact ⟨HG8.out.os, HG8.out.tape, HG8.out.output, HG8.out.size, fun k hk => HG8.out.block k (by omega)⟩
  · have h0i : ¬ (x3 : Int) = 0 := by omega
    obtain ⟨m, hm⟩ : ∃ m, x3 = m + 1 := ⟨x3 - 1, by omega⟩
    subst hm
    go_wp2_with fail
    refine (text_ok B base s4 _ m _ HR6.out hz4 (by omega)).mono ?_
    rintro e w7 ⟨v, s5, g5, hT5, rfl, hR7, hF7⟩
    have HT5 : Hid (TextE s4 m v s5 g5) := hT5
    have hRB7 : RB w7 rb y1 p ⟨#[]⟩ false := HRB6.out.nf hrB hF7
    have HR8 : Hid (RDS (w7.setCell ⟨rb, 2, none⟩ (.string v)) B base s5 (true && g1 && g2 && g3 && g4 && g5)) := hR7.other hrB _
    have HRB8 : Hid (RB (w7.setCell ⟨rb, 2, none⟩ (.string v)) rb y1 p v false) := hRB7.set2 _
    have HQ8 : Hid (RB (w7.setCell ⟨rb, 2, none⟩ (.string v)) q 0 ⟨#[]⟩ ⟨#[]⟩ false) := (Below.heap_setCell _ _ _ _ (by show q ≠ rb; omega)).trans (HQ6.out.nf (by omega) hF7)
    have HG8 : Hid (NG B q w (w7.setCell ⟨rb, 2, none⟩ (.string v))) := (HG6.out.nf hF7 hS6).set hqr _
    have r2' := hRB7.cells.2.2.1
    have rf' := hRB7.frozen 2
    clear hT5 hR7 hF7 hRB7 HR6 HRB6 HQ6 HG6 hS6 c0 c1 c2 c3 c4 f1 f2 r0 r1 r2 r3 rf3 rf2
    generalize hw8 : w7.setCell ⟨rb, 2, none⟩ (.string v) = w8 at HR8 HRB8 HQ8 HG8
    go_wp2_with fail
    clear hw8 r2' rf'
    obtain ⟨c0, c1, c2, c3, c4, f1, f2⟩ := HR8.out.cells
    clear c0 c1 c3 c4 f1 f2
    obtain ⟨r0, r1, r2, r3⟩ := HRB8.out.cells
    obtain ⟨q0, q1, q2, q3⟩ := HQ8.out.cells
    have qf0 := HQ8.out.frozen 0
    have qf1 := HQ8.out.frozen 1
    have qf2 := HQ8.out.frozen 2
    have qf3 := HQ8.out.frozen 3
    have hqr' : ¬ q = rb := by omega
    have hrq' : ¬ rb = q := by omega
    have hqb : ¬ q = B + 2 := by omega
    have hbq : ¬ B + 2 = q := by omega
    have HR9 : Hid (RDS (((((w8.setCell ⟨q, 0, none⟩ (.int .i64 y1)).setCell ⟨q, 1, none⟩ (.string p)).setCell ⟨q, 2, none⟩ (.string v)).setCell ⟨q, 3, none⟩ (.bool false)).drew) B base s5 (true && g1 && g2 && g3 && g4 && g5)) := ((((HR8.out.other (by omega) _).other (by omega) _).other (by omega) _).other (by omega) _).drew
    have HQ9 : Hid (RB (((((w8.setCell ⟨q, 0, none⟩ (.int .i64 y1)).setCell ⟨q, 1, none⟩ (.string p)).setCell ⟨q, 2, none⟩ (.string v)).setCell ⟨q, 3, none⟩ (.bool false)).drew) q y1 p v false) := (((HQ8.out.set0 _).set1 _).set2 _).set3 _
    have HG9 : Hid (NG B q w (((((w8.setCell ⟨q, 0, none⟩ (.int .i64 y1)).setCell ⟨q, 1, none⟩ (.string p)).setCell ⟨q, 2, none⟩ (.string v)).setCell ⟨q, 3, none⟩ (.bool false)).drew)) := ((((HG8.out.set (Nat.le_refl _) _).set (Nat.le_refl _) _).set (Nat.le_refl _) _).set (Nat.le_refl _) _).drew
    go_region
    generalize hw9 : ((((w8.setCell ⟨q, 0, none⟩ (.int .i64 y1)).setCell ⟨q, 1, none⟩ (.string p)).setCell ⟨q, 2, none⟩ (.string v)).setCell ⟨q, 3, none⟩ (.bool false)).drew = w9 at HR9 HQ9 HG9
    clear hw9 r0 r1 r2 r3 q0 q1 q2 q3 qf0 qf1 qf2 qf3 c2
    obtain ⟨q0, q1, q2, q3⟩ := HQ9.out.cells
    go_wp2
    refine bodyPost_ret (v := .tuple #[.agg #[.int .i64 y1, .string p, .string v, .bool false], .bool (g1 && g2 && g3 && g4 && g5)]) ?_ rfl ?_
    · simp [results, Tryz.results152, go_sem, q0, q1, q2, q3]
    · refine ⟨y1, p, v, _, s5, _, rfl, ⟨x1, s1, g1, x2, s2, g2, s3, g3, m + 1, s4, g4, HN1.out, HNN2.out, HT3.out, HN4.out, HY1.out.symm, .inr ⟨by omega, rfl, g5, HT5.out, rfl⟩⟩, ?_, ?_⟩
      · have := HR9.out
        rw [Bool.true_and] at this
        exact this
      · exact ⟨HG9.out.os, HG9.out.tape, HG9.out.output, HG9.out.size, fun k hk => HG9.out.block k (by omega)⟩
end Go.Proofs.YtcjlcieheepegaaGreatDoor
namespace Go.Proofs.YtcjlcieheepegaaGreatDoor
open Go.RowKit
set_option linter.unusedVariables false
set_option maxRecDepth 20000

/-- The next record of bytes, and what is left. -/
noncomputable def rdRec (base : Int) (R : List UInt8) : Option (Rec × List UInt8) :=
  match varD (mk R) with
  | none => none
  | some (x1, n1) => match varD (mk (R.drop n1)) with
    | none => none
    | some (x2, n2) =>
      if x2 ≤ ((R.drop n1).drop n2).length then
        match varD (mk (((R.drop n1).drop n2).drop x2)) with
        | none => none
        | some (x3, n3) =>
          if x3 = 0 then some (⟨IntKind.i64.wrap (base + x1), mk (((R.drop n1).drop n2).take x2), ⟨#[]⟩, true⟩, (((R.drop n1).drop n2).drop x2).drop n3)
          else if x3 - 1 ≤ ((((R.drop n1).drop n2).drop x2).drop n3).length then
            some (⟨IntKind.i64.wrap (base + x1), mk (((R.drop n1).drop n2).take x2), mk (((((R.drop n1).drop n2).drop x2).drop n3).take (x3 - 1)), false⟩, ((((R.drop n1).drop n2).drop x2).drop n3).drop (x3 - 1))
          else none
      else none
theorem mk_data (s : ByteArray) : mk s.data.toList = s := by apply ByteArray.ext; simp [mk]
theorem mk_inj {a b : List UInt8} (h : mk a = mk b) : a = b := by rw [← mk_toList a, ← mk_toList b, h]
theorem extract_drop (R : List UInt8) (n : Nat) : (mk R).extract n (mk R).size = mk (R.drop n) := by
  apply ByteArray.ext
  rw [ByteArray.data_extract, mk_size]
  show R.toArray.extract n R.length = (R.drop n).toArray
  simp
  exact List.take_of_length_le (by simp)
theorem extract_take (R : List UInt8) (n : Nat) : (mk R).extract 0 n = mk (R.take n) := by
  apply ByteArray.ext
  rw [ByteArray.data_extract]
  show R.toArray.extract 0 n = (R.take n).toArray
  simp
/-- What next reads is what rdRec says. -/
theorem next_is (base : Int) (R : List UInt8) (off : Int) (key val : ByteArray) (gone : Bool) (t : ByteArray) (ok : Bool) (h : NextE base (mk R) off key val gone t ok) :
    (∃ R', rdRec base R = some (⟨off, key, val, gone⟩, R') ∧ t = mk R' ∧ ok = true) ∨ (rdRec base R = none ∧ ok = false) := by
  obtain ⟨x1, s1, g1, x2, s2, g2, s3, g3, x3, s4, g4, h1, h2, h3, h4, rfl, h5⟩ := h
  unfold rdRec
  have hbad : ∀ g : Bool, g = false → (g1 && g2 && g3 && g4) = false ∨ True := fun _ _ => .inr trivial
  rcases h1 with ⟨n1, a1, rfl, rfl⟩ | ⟨a1, rfl, _, rfl⟩
  · rw [a1]
    rw [extract_drop] at h2
    rcases h2 with ⟨n2, a2, rfl, rfl⟩ | ⟨a2, rfl, _, rfl⟩
    · simp only [a2]
      rw [extract_drop] at h3
      rcases h3 with ⟨a3, rfl, rfl, rfl⟩ | ⟨a3, rfl, rfl, rfl⟩
      · rw [mk_size] at a3
        rw [extract_drop] at h4
        rw [if_pos a3]
        rcases h4 with ⟨n3, a4, rfl, rfl⟩ | ⟨a4, rfl, _, rfl⟩
        · simp only [a4]
          rw [extract_drop] at h5
          rcases h5 with ⟨rfl, rfl, rfl, rfl, rfl⟩ | ⟨hx, rfl, g5, h5, rfl⟩
          · left
            rw [if_pos rfl, extract_take]
            exact ⟨_, rfl, rfl, rfl⟩
          · rw [if_neg hx]
            rcases h5 with ⟨a5, rfl, rfl, rfl⟩ | ⟨a5, rfl, rfl, rfl⟩
            · rw [mk_size] at a5
              left
              rw [if_pos a5, extract_take, extract_take, extract_drop]
              exact ⟨_, rfl, rfl, rfl⟩
            · rw [mk_size] at a5
              right
              rw [if_neg (by omega)]
              exact ⟨rfl, rfl⟩
        · right
          simp only [a4]
          rcases h5 with ⟨_, rfl, rfl, rfl, rfl⟩ | ⟨hx, rfl, g5, h5, rfl⟩
          · exact ⟨by first | rfl | trivial, by simp⟩
          · exact absurd rfl hx
      · rw [mk_size] at a3
        right
        rw [if_neg (by omega)]
        rcases h5 with ⟨_, rfl, rfl, rfl, rfl⟩ | ⟨hx, rfl, g5, h5, rfl⟩
        · exact ⟨by first | rfl | trivial, by simp⟩
        · exact ⟨by first | rfl | trivial, by simp⟩
    · right
      simp only [a2]
      rcases h5 with ⟨_, rfl, rfl, rfl, rfl⟩ | ⟨hx, rfl, g5, h5, rfl⟩
      · exact ⟨by first | rfl | trivial, by simp⟩
      · exact ⟨by first | rfl | trivial, by simp⟩
  · right
    rw [a1]
    rcases h5 with ⟨_, rfl, rfl, rfl, rfl⟩ | ⟨hx, rfl, g5, h5, rfl⟩
    · exact ⟨by first | rfl | trivial, by simp⟩
    · exact ⟨by first | rfl | trivial, by simp⟩
/-- So many records of bytes, and what is left. -/
noncomputable def rdN (base : Int) : Nat → List UInt8 → Option (List Rec × List UInt8)
  | 0, R => some ([], R)
  | n + 1, R => match rdRec base R with
    | none => none
    | some (r, R') => match rdN base n R' with
      | none => none
      | some (L, R'') => some (r :: L, R'')
theorem rdN_add (base : Int) (i k : Nat) (R : List UInt8) : rdN base (i + k) R = match rdN base i R with
    | none => none
    | some (M, R') => match rdN base k R' with
      | none => none
      | some (L, R'') => some (M ++ L, R'') := by
  induction i generalizing R with
  | zero =>
    rw [Nat.zero_add]
    simp only [rdN]
    cases rdN base k R with
    | none => rfl
    | some p => rfl
  | succ i ih =>
    rw [show i + 1 + k = (i + k) + 1 by omega]
    simp only [rdN]
    cases rdRec base R with
    | none => rfl
    | some p =>
      obtain ⟨r, R'⟩ := p
      simp only [ih R']
      cases rdN base i R' with
      | none => rfl
      | some p =>
        obtain ⟨M, R2⟩ := p
        simp only
        cases rdN base k R2 with
        | none => rfl
        | some p => rfl
theorem rdN_len {base : Int} {n : Nat} {R R' : List UInt8} {L : List Rec} (h : rdN base n R = some (L, R')) : L.length = n := by
  induction n generalizing R L with
  | zero => simp only [rdN] at h; cases h; rfl
  | succ n ih =>
    simp only [rdN] at h
    cases hr : rdRec base R with
    | none => rw [hr] at h; cases h
    | some p =>
      obtain ⟨r, R1⟩ := p
      rw [hr] at h
      simp only at h
      cases hn : rdN base n R1 with
      | none => rw [hn] at h; cases h
      | some p =>
        obtain ⟨L1, R2⟩ := p
        rw [hn] at h
        cases h
        simp [ih hn]
/-- What Of answers: the records, or none. -/
noncomputable def ofL (base : Int) (n : Nat) (R : List UInt8) : Option (List Rec) := match rdN base n R with
  | none => none
  | some (L, R') => if comes L base && R'.isEmpty then some L else none
theorem ofL_more {base : Int} {i k : Nat} {R R' : List UInt8} {M : List Rec} (h : rdN base i R = some (M, R')) (hr : rdRec base R' = none) : ofL base (i + (k + 1)) R = none := by
  unfold ofL
  rw [rdN_add, h]
  simp only [rdN, hr]
theorem ofL_bad {base : Int} {i k : Nat} {R R' R2 : List UInt8} {M : List Rec} {r : Rec} (h : rdN base i R = some (M, R')) (hr : rdRec base R' = some (r, R2)) (hc : comes (M ++ [r]) base = false) : ofL base (i + (k + 1)) R = none := by
  unfold ofL
  rw [rdN_add, h]
  simp only [rdN, hr]
  cases hk : rdN base k R2 with
  | none => rfl
  | some p =>
    obtain ⟨L, R3⟩ := p
    simp only
    rw [show M ++ r :: L = (M ++ [r]) ++ L by simp, comes_append, hc]
    rfl
theorem rdN_snoc {base : Int} {i : Nat} {R R' R2 : List UInt8} {M : List Rec} {r : Rec} (h : rdN base i R = some (M, R')) (hr : rdRec base R' = some (r, R2)) : rdN base (i + 1) R = some (M ++ [r], R2) := by
  rw [rdN_add, h]
  simp only [rdN, hr]
theorem ofL_end {base : Int} {n : Nat} {R R' : List UInt8} {M : List Rec} (h : rdN base n R = some (M, R')) (hc : comes M base = true) : ofL base n R = if R'.isEmpty then some M else none := by
  unfold ofL
  rw [h]
  simp only [hc, Bool.true_and]
theorem comes_count (M : List Rec) (base : Int) (h : comes M base = true) : (M.length : Int) ≤ lowB M base - base ∧ (M ≠ [] → lowB M base ≤ 1099511627776) := by
  induction M generalizing base with
  | nil => exact ⟨by simp [lowB], fun h => absurd rfl h⟩
  | cons r M ih =>
    simp only [comes, Bool.and_eq_true, decide_eq_true_eq] at h
    have h1 := ih (r.off + 1) h.2
    have h2 := (mayB_iff r).1 h.1.1
    have h3 : r.off < 1099511627776 := by have := h2.1; unfold offB at this; simp at this; exact this.2
    refine ⟨by simp only [lowB, List.length_cons]; have := h1.1; push_cast; omega, fun _ => ?_⟩
    simp only [lowB]
    cases M with
    | nil => simp only [lowB]; omega
    | cons x M => exact h1.2 (by simp)
theorem comes_small (M : List Rec) (base : Int) (h : comes M base = true) (hb : 0 ≤ base) : M.length ≤ 1099511627776 := by
  have h1 := comes_count M base h
  cases M with
  | nil => simp
  | cons x M => have := h1.2 (by simp); have := h1.1; omega
end Go.Proofs.YtcjlcieheepegaaGreatDoor
namespace Go.Proofs.YtcjlcieheepegaaGreatDoor
open Go.RowKit
set_option linter.unusedVariables false
set_option maxRecDepth 20000

/-- The cells of records. -/
def rcs : List Rec → List Value
  | [] => []
  | r :: L => r.cs ++ rcs L
theorem rcs_append (L M : List Rec) : rcs (L ++ M) = rcs L ++ rcs M := by
  induction L with
  | nil => rfl
  | cons x L ih => simp [rcs, ih]
theorem rcs_length (L : List Rec) : (rcs L).length = L.length * 4 := by
  induction L with
  | nil => rfl
  | cons x L ih => simp only [rcs, List.length_append, ih, List.length_cons]; show 4 + _ = _; omega
theorem rcs_get (L : List Rec) (i : Nat) (r : Rec) (h : L[i]? = some r) (j : Nat) (hj : j < 4) : (rcs L)[i * 4 + j]? = r.cs[j]? := by
  induction L generalizing i with
  | nil => simp at h
  | cons x L ih =>
    cases i with
    | zero =>
      simp at h
      subst h
      rw [rcs, List.getElem?_append_left (by show 0 * 4 + j < 4; omega)]
      simp
    | succ i =>
      simp at h
      rw [rcs, List.getElem?_append_right (by show 4 ≤ _; omega), show (i + 1) * 4 + j - x.cs.length = i * 4 + j by show (i + 1) * 4 + j - 4 = _; omega]
      exact ih i h
theorem add_zero_addr (g j : Nat) : (⟨g, 0, none⟩ : Addr).add j = ⟨g, j, none⟩ := by
  unfold Addr.add; split
  · subst_vars; rfl
  · simp
theorem RIn.nil (w : World) (a : Option Addr) : RIn w a [] := fun i r h => by simp at h
theorem RIn.owned {w : World} {B g n cap : Nat} {L : List Rec} (h : w.ownsRow B 49 4 (.slice (some ⟨g, 0, none⟩) n cap) n (rcs L)) (hg : g < w.heap.size) : RIn w (some ⟨g, 0, none⟩) L := by
  intro i r hr
  have hc := h.cells (g := g) rfl
  refine ⟨g, 0, rfl, hg, ?_, ?_, ?_, ?_⟩
  · have := hc (i * 4 + 0) _ (rcs_get L i r hr 0 (by omega)); rw [add_zero_addr] at this; simpa using this
  · have := hc (i * 4 + 1) _ (rcs_get L i r hr 1 (by omega)); rw [add_zero_addr] at this; simpa using this
  · have := hc (i * 4 + 2) _ (rcs_get L i r hr 2 (by omega)); rw [add_zero_addr] at this; simpa using this
  · have := hc (i * 4 + 3) _ (rcs_get L i r hr 3 (by omega)); rw [add_zero_addr] at this; simpa using this
theorem recInfo : (Tryz.prog.info? 49).map (fun i => (i.zero, i.size, i.bytes)) = some (some (.agg #[.int .i64 0, .string ⟨#[]⟩, .string ⟨#[]⟩, .bool false]), 4, 48) := by kernel_rfl
theorem info_split {t : TypeId} {z : Option Value} {n m : Nat} (h : (Tryz.prog.info? t).map (fun i => (i.zero, i.size, i.bytes)) = some (z, n, m)) : ∃ i, Tryz.prog.info? t = some i ∧ i.zero = z ∧ i.size = n ∧ i.bytes = m := by
  cases e : Tryz.prog.info? t with
  | none => rw [e] at h; simp at h
  | some i => rw [e] at h; simp at h; exact ⟨i, rfl, h.1, h.2.1, h.2.2⟩
theorem owns_below {w w' : World} {B : Nat} {E : TypeId} {size n : Nat} {v : Value} {xs : List Value} (h : w.ownsRow B E size v n xs) (hb : Below w.heap.size w w') : w'.ownsRow B E size v n xs := by
  refine ⟨h.1, ?_⟩
  rcases h.2 with hn | ⟨g, cap, cur, hv, hg, hh, r⟩
  · exact .inl hn
  · exact .inr ⟨g, cap, cur, hv, hg, (hb.block g (lt_of_block hh)).trans hh, r⟩
/-- A slice of records of the call's own: its value. -/
def Own (w : World) (B : Nat) (v : Value) (L : List Rec) : Prop := w.ownsRow B 49 4 v L.length (rcs L)
theorem Own.nil (w : World) (B : Nat) : Own w B (.slice none 0 0) [] := World.ownsRow_nil _ _ _ _
theorem Own.nf {w w' : World} {B D base : Nat} {bi : Int} {s : ByteArray} {ok : Bool} {v : Value} {L : List Rec} (h : Own w B v L) (hr : RDS w D bi s ok) (hf : NF D w w') : Own w' B v L := by
  refine ⟨h.1, ?_⟩
  rcases h.2 with hn | ⟨g, cap, cur, hv, hg, hh, r⟩
  · exact .inl hn
  · refine .inr ⟨g, cap, cur, hv, hg, (hf.block g (lt_of_block hh) ?_ ?_).trans hh, r⟩
    · rintro rfl; have := hr.hr; rw [hh] at this; cases this
    · rintro rfl; have := hr.ho; rw [hh] at this; cases this
theorem Own.below {w w' : World} {B : Nat} {v : Value} {L : List Rec} (h : Own w B v L) (hb : Below w.heap.size w w') : Own w' B v L := owns_below h hb
/-- The readers' closures stay where a row of records grows. -/
theorem RDS.grown {w w' : World} {D B : Nat} {bi : Int} {s : ByteArray} {ok : Bool} {v : Value} {L : List Rec} (h : RDS w D bi s ok) (ho : Own w B v L) (hg : w.grownBy w' v.ownBlock) : RDS w' D bi s ok := by
  have key : ∀ (k : Nat) (c : Array Value) (t : TypeId), w.heap[k]? = some (.cells c t (0, 0)) → t ≠ 49 → w'.heap[k]? = some (.cells c t (0, 0)) := by
    intro k c t hk ht
    refine (hg.block k (lt_of_block hk) (fun e => ?_)).trans hk
    rcases ho.2 with ⟨rfl, _⟩ | ⟨g, cap, cur, rfl, _, hh, _⟩
    · simp [Value.ownBlock] at e
    · have e' : k = g := by simpa [Value.ownBlock] using e
      subst e'
      rw [hk] at hh
      cases hh
      exact ht rfl
  exact ⟨key _ _ _ h.hb (by decide), key _ _ _ h.hr (by decide), key _ _ _ h.ho (by decide), key _ _ _ h.hn (by decide), key _ _ _ h.ht (by decide)⟩
theorem below_grown {B : Nat} {w w' : World} {v : Value} {E : TypeId} {n size : Nat} {xs : List Value} (ho : w.ownsRow B E size v n xs) (hg : w.grownBy w' v.ownBlock) (hB : B ≤ w.heap.size) : Below B w w' :=
  ⟨hg.os, hg.tape, hg.output, hg.size, fun k hk => hg.block k (by omega) (fun e => by
    rcases ho.2 with ⟨rfl, _⟩ | ⟨g, cap, cur, rfl, hB', _⟩
    · simp [Value.ownBlock] at e
    · have e' : k = g := by simpa [Value.ownBlock] using e
      omega)⟩
/-- What Of answers, and where it lies. -/
def OfEnd (w : World) (o : Option (List Rec)) (e : Ending) (w' : World) : Prop :=
  (∃ L v, o = some L ∧ e = .returned (.tuple #[v, .int .i64 0]) ∧ Own w' w.heap.size v L ∧ Below w.heap.size w w') ∨ (o = none ∧ e = .returned (.tuple #[.slice none 0 0, .int .i64 90]) ∧ Below w.heap.size w w')
theorem of_bad (s : ByteArray) (base n : Int) (w : World) (h : offB base = false ∨ n < 0) :
    Calls Tryz.prog 75 #[.string s, .int .i64 base, .int .i64 n] w fun e w' => OfEnd w none e w' := by
  have HO := isOffset_ok base
  obtain ⟨ob, hob⟩ : ∃ ob, offB base = ob := ⟨_, rfl⟩
  rw [hob] at HO h
  cases ob
  · go_enter Tryz.func75, Tryz.ntmps75
    go_wp2_with (go_at_call 101; refine (HO _).mono ?_; rintro e w' ⟨rfl, rfl⟩)
    go_ret2
    exact .inr ⟨rfl, rfl, Below.refl _ _⟩
  · have hn : n < 0 := h.resolve_left (by decide)
    go_enter Tryz.func75, Tryz.ntmps75
    go_wp2_with (go_at_call 101; refine (HO _).mono ?_; rintro e w' ⟨rfl, rfl⟩)
    go_ret2
    exact .inr ⟨rfl, rfl, Below.refl _ _⟩
/-- What a round keeps. -/
structure OR (w wr : World) (base : Int) (S : List UInt8) (v : Value) (M : List Rec) (R : List UInt8) (low : Int) : Prop where
  rd : rdN base M.length S = some (M, R)
  rds : RDS wr w.heap.size base (mk R) true
  own : Own wr w.heap.size v M
  bel : Below w.heap.size w wr
  low : low = lowB M base
  may : comes M base = true
  len : R.length ≤ S.length
theorem NextE.le {base : Int} {s : ByteArray} {off : Int} {key val : ByteArray} {gone : Bool} {t : ByteArray} {ok : Bool} (h : NextE base s off key val gone t ok) : key.size ≤ s.size ∧ val.size ≤ s.size ∧ t.size ≤ s.size := by
  obtain ⟨x1, s1, g1, x2, s2, g2, s3, g3, x3, s4, g4, h1, h2, h3, h4, rfl, h5⟩ := h
  have a1 := h1.le
  have a2 := h2.le
  have a3 := h3.le
  have a4 := h4.le
  rcases h5 with ⟨_, rfl, rfl, rfl, _⟩ | ⟨_, rfl, g5, h5, _⟩
  · exact ⟨by omega, Nat.zero_le _, by omega⟩
  · have a5 := h5.le
    exact ⟨by omega, by omega, by omega⟩
theorem news4 (W : World) (a b c d : Value) (t : TypeId) : ∀ j u, [a, b, c, d][j]? = some u → (W.alloc (.cells #[a, b, c, d] t)).cell? ((⟨W.heap.size, 0, none⟩ : Addr).add j) = some u := by
  intro j u h
  match j, h with
  | 0, h => simp at h; subst h; simp [Addr.add]
  | 1, h => simp at h; subst h; simp [Addr.add]
  | 2, h => simp at h; subst h; simp [Addr.add]
  | 3, h => simp at h; subst h; simp [Addr.add]
theorem one4 (off : Int) (key val : ByteArray) (gone : Bool) : ∀ u ∈ [Value.int .i64 off, .string key, .string val, .bool gone], u.oneCell' = true := by
  intro u hu
  simp only [List.mem_cons, List.not_mem_nil, or_false] at hu
  rcases hu with rfl | rfl | rfl | rfl <;> rfl
theorem isEmpty_mk (R : List UInt8) : (mk R).toList.isEmpty = R.isEmpty := by
  rw [ByteArray.toList_eq, mk_toList]
theorem Own.lt {w : World} {B : Nat} {v : Value} {L : List Rec} (h : Own w B v L) {k : Nat} (hk : w.heap.size ≤ k) : v.ownBlock ≠ some k := by
  rcases h.2 with ⟨rfl, _⟩ | ⟨g, cap, cur, rfl, _, hh, _⟩
  · simp [Value.ownBlock]
  · have := lt_of_block hh
    intro e
    have e' : g = k := by simpa [Value.ownBlock] using e
    omega
theorem OR.more {w wr w1 : World} {base : Int} {S : List UInt8} {v : Value} {M : List Rec} {R R' : List UInt8} {low : Int} {W : World} {r : Rec} {g cap : Nat} (h : OR w wr base S v M R low) (hr : rdRec base R = some (r, R')) (hm : (mayB r && decide (low ≤ r.off)) = true) (hR' : R'.length ≤ R.length)
    (hrd : RDS W w.heap.size base (Go.Proofs.YtcjlcieheepegaaGreatDoor.mk R') true) (hbW : Below w.heap.size w W) (hoW : Own W w.heap.size v M) (hg : W.grownBy w1 v.ownBlock)
    (ho : w1.ownsRow w.heap.size 49 4 (.slice (some ⟨g, 0, none⟩) (M.length + 1) cap) (M.length + 1) (rcs M ++ [.int .i64 r.off, .string r.key, .string r.val, .bool r.gone])) :
    OR w w1 base S (.slice (some ⟨g, 0, none⟩) (M.length + 1) cap) (M ++ [r]) R' (r.off + 1) := by
  refine ⟨?_, hrd.grown hoW hg, ?_, hbW.trans (below_grown hoW hg hbW.size), (lowB_snoc _ _ _).symm, ?_, by have := h.len; omega⟩
  · rw [List.length_append]; exact rdN_snoc h.rd hr
  · show w1.ownsRow _ _ _ _ (M ++ [r]).length (rcs (M ++ [r]))
    rw [rcs_append, List.length_append]
    exact ho
  · rw [comes_append, h.may, Bool.true_and, ← h.low]
    simp only [comes, hm, Bool.and_true]
set_option maxHeartbeats 2000000 in
theorem of_walk (S : List UInt8) (base : Int) (n : Nat) (w : World) (hb : offB base = true) (hn : n ≤ 9223372036854775807) (hsz : S.length ≤ 140737488355328) :
    Calls Tryz.prog 75 #[.string (mk S), .int .i64 base, .int .i64 n] w fun e w' => OfEnd w (ofL base n S) e w' := by
  have HO := isOffset_ok base
  rw [hb] at HO
  obtain ⟨hb0, hb1⟩ : 0 ≤ base ∧ base < 1099511627776 := by unfold offB at hb; simpa using hb
  obtain ⟨i0, hi, hz0, hz1, hz2⟩ := info_split recInfo
  have HI : Hid (Tryz.prog.info? 49 = some i0 ∧ i0.zero = some (.agg #[.int .i64 0, .string ⟨#[]⟩, .string ⟨#[]⟩, .bool false]) ∧ i0.size = 4 ∧ i0.bytes = 48) := ⟨hi, hz0, hz1, hz2⟩
  clear hi hz0 hz1 hz2
  obtain ⟨res, hres⟩ : ∃ res, ofL base n S = res := ⟨_, rfl⟩
  rw [hres]
  have HRES : Hid (ofL base n S = res) := hres
  clear hres
  go_enter Tryz.func75, Tryz.ntmps75
  go_wp2_with (first | (go_at_call 101; refine (HO _).mono ?_; rintro e w' ⟨rfl, hw⟩; obtain rfl := hw.symm) | (go_at_call 102; refine (reader_ok _ _ _).mono ?_; rintro e w1 ⟨rfl, hR, hB⟩; simp only [nextV, endV, pv]; have HST : Hid (OR w w1 base S (.slice none 0 0) [] S base) := ⟨rfl, hR, Own.nil _ _, hB, rfl, rfl, Nat.le_refl _⟩; clear hR hB))
  go_loopw [10, 11, 29] (fun v lw i wr => ∃ (V : Value) (M : List Rec) (R : List UInt8) (low : Int), V = v ∧ i = .int .i64 (M.length : Nat) ∧ lw = .int .i64 low ∧ M.length ≤ n ∧ OR w wr base S V M R low) (fun _ _ i _ => n - (intOf i).toNat)
  case atStart => exact ⟨_, [], S, base, rfl, rfl, rfl, Nat.zero_le _, HST.out⟩
  case round =>
    obtain ⟨V, M, R, low, rfl, rfl, rfl, hMn, hr⟩ := hrel
    have HR : Hid (OR w wr base S V M R low) := hr
    have hlen := hr.len
    have hbs := hr.bel.size
    have hcnt := comes_small M base hr.may hb0
    clear hr
    by_cases hlt : M.length < n
    · have hlti : (M.length : Int) < (n : Int) := by omega
      obtain ⟨k, hk⟩ : ∃ k, n = M.length + (k + 1) := ⟨n - M.length - 1, by omega⟩
      have HKK : Hid (n = M.length + (k + 1)) := hk
      clear hk
      go_wp2_with fail
      refine (next_ok w.heap.size base (mk R) _ HR.out.rds (by rw [mk_size]; omega) hb0 hb1).mono ?_
      rintro e w2 ⟨off, key, val, gone, t, ok, rfl, hN, hD, hF⟩
      have hle := hN.le
      rw [mk_size] at hle
      obtain ⟨hkey, hval, htl⟩ := hle
      have hO2 : Own w2 w.heap.size V M := HR.out.own.nf (base := 0) HR.out.rds hF
      have HO2 : Hid (Own w2 w.heap.size V M) := hO2
      have HB2 : Hid (Below w.heap.size w w2) := HR.out.bel.trans (hF.below (Nat.le_refl _) hbs)
      have hs2 : w.heap.size ≤ w2.heap.size := Nat.le_trans hbs hF.size
      clear hO2
      have hBa : Below w2.heap.size w2 (w2.alloc (.cells #[.int .i64 off, .string key, .string val, .bool gone] 49)) := (Below.refl _ _).alloc (Nat.le_refl _) _
      have HA : Hid (Below w2.heap.size w2 (w2.alloc (.cells #[.int .i64 off, .string key, .string val, .bool gone] 49))) := hBa
      rcases next_is base R off key val gone t ok hN with ⟨R', hR', rfl, rfl⟩ | ⟨hR', rfl⟩
      · have HRD : Hid (rdRec base R = some (⟨off, key, val, gone⟩, R')) := hR'
        have HD : Hid (RDS w2 w.heap.size base (mk R') true) := hD
        rw [mk_size] at htl
        have HC : Hid (∀ W, Calls Tryz.prog 103 #[.agg #[.int .i64 off, .string key, .string val, .bool gone], .int .i64 low] W fun e w' => e = .returned (.bool (mayB ⟨off, key, val, gone⟩ && decide (low ≤ off))) ∧ Below W.heap.size W w') := fun W => mayCome_ok off low key val gone W (by omega) (by omega)
        have hRB : RB (w2.alloc (.cells #[.int .i64 off, .string key, .string val, .bool gone] 49)) w2.heap.size off key val gone := heap_alloc_new _ _
        have HRB : Hid (RB (w2.alloc (.cells #[.int .i64 off, .string key, .string val, .bool gone] 49)) w2.heap.size off key val gone) := hRB
        clear hN hD hF hR' hBa hRB
        obtain ⟨rb, hrb⟩ : ∃ rb, w2.heap.size = rb := ⟨_, rfl⟩
        have hrl : rb < (w2.alloc (.cells #[.int .i64 off, .string key, .string val, .bool gone] 49)).heap.size := by simp; omega
        rw [hrb] at HRB hs2
        have HS : Hid (w2.heap.size = rb) := hrb
        generalize hWA : (w2.alloc (.cells #[.int .i64 off, .string key, .string val, .bool gone] 49)) = wA at HRB HA hrl
        go_upto_region 9 with fail
        clear hWA
        obtain ⟨d0, d1, d2, d3⟩ := HRB.out.cells
        go_wp2_with fail
        refine (HC.out _).mono ?_
        rintro e w3 ⟨rfl, hb3⟩
        have HB3 : Hid (Below w2.heap.size w2 w3) := HA.out.trans (hb3.mono HA.out.size)
        have HRB3 : Hid (RB w3 rb off key val gone) := (hb3.block rb hrl).trans HRB.out
        clear hb3 d0 d1 d2 d3
        obtain ⟨d0, d1, d2, d3⟩ := HRB3.out.cells
        by_cases hm : (mayB ⟨off, key, val, gone⟩ && decide (low ≤ off)) = true
        · have HM : Hid ((mayB ⟨off, key, val, gone⟩ && decide (low ≤ off)) = true) := hm
          rw [hm]
          clear hm
          have HOW : Hid (∀ o, Own (w3.alloc o) w.heap.size V M ∧ w.heap.size ≤ (w3.alloc o).heap.size) := fun o =>
            ⟨(HO2.out.below HB3.out).below ((Below.refl _ _).alloc (Nat.le_refl _) _), by have := HB3.out.size; have := HS.out; simp; omega⟩
          go_wp2_with (at_builtin; refine wpList_append_lies _ rfl _ _ 44 rfl w.heap.size 49 i0 (.agg #[.int .i64 0, .string ⟨#[]⟩, .string ⟨#[]⟩, .bool false]) 4 48 Tryz.underlying44 HI.out.1 HI.out.2.1 HI.out.2.2.1 HI.out.2.2.2 rfl (by decide) V M.length (rcs M) rfl (HOW.out _).1 ⟨w3.heap.size, 0, none⟩ 1 1 [.int .i64 off, .string key, .string val, .bool gone] rfl rfl ?c1 ?c2 (by decide) ?c3 ?c4 (HOW.out _).2 _ rfl ?_)
          case c1 => exact news4 _ _ _ _ _ _
          case c2 => exact one4 _ _ _ _
          case c3 => unfold maxLen; omega
          case c4 => omega
          intro g cap w4 hown hgrow hat hgl
          have HE : Hid (OR w w4 base S (.slice (some ⟨g, 0, none⟩) (M.length + 1) cap) (M ++ [⟨off, key, val, gone⟩]) R' (off + 1)) := by
            have hW3 : Below w2.heap.size w2 (w3.alloc (.cells #[.int .i64 off, .string key, .string val, .bool gone] 49)) := HB3.out.alloc HB3.out.size _
            exact HR.out.more HRD.out HM.out htl (HD.out.below hW3) (HB2.out.trans (hW3.mono HB2.out.size)) (HO2.out.below hW3) hgrow hown
          have d4 : w4.cell? ⟨rb, 0, none⟩ = some (.int .i64 off) := by
            have h1 : RB (w3.alloc (.cells #[.int .i64 off, .string key, .string val, .bool gone] 49)) rb off key val gone := (((Below.refl _ w3).alloc (Nat.le_refl _) _).block rb (lt_of_block HRB3.out)).trans HRB3.out
            have h2 : RB w4 rb off key val gone := (hgrow.block rb (lt_of_block h1) (fun e => HO2.out.lt (show w2.heap.size ≤ rb by have := HS.out; omega) e.symm)).trans h1
            exact h2.cells.1
          obtain ⟨ho1, ho2⟩ : 0 ≤ off ∧ off < 1099511627776 := by
            have h2 := HM.out
            rw [Bool.and_eq_true] at h2
            have := ((mayB_iff _).1 h2.1).1
            unfold offB at this
            simpa using this
          clear hown hgrow hat hgl d0 d1 d2 d3
          go_wp2
          go_roundw
          case rel => exact ⟨_, M ++ [⟨off, key, val, gone⟩], R', off + 1, rfl, by simp, rfl, by simp; omega, HE.out⟩
          case measure => simp [intOf]; omega
        · have hm' : (mayB ⟨off, key, val, gone⟩ && decide (low ≤ off)) = false := by simpa using hm
          have HM : Hid (res = none) := by
            rw [← HRES.out, HKK.out]
            refine ofL_bad HR.out.rd HRD.out ?_
            rw [comes_append, HR.out.may, Bool.true_and, ← HR.out.low]
            simp only [comes, hm', Bool.false_and]
          rw [hm']
          clear hm hm'
          have HBE : Hid (Below w.heap.size w w3) := HB2.out.trans (HB3.out.mono HB2.out.size)
          go_wp2
          go_ret2
          exact .inr ⟨HM.out, rfl, HBE.out⟩
      · have HM : Hid (res = none) := by
          rw [← HRES.out, HKK.out]
          exact ofL_more HR.out.rd hR'
        have HBE : Hid (Below w.heap.size w (w2.alloc (.cells #[.int .i64 off, .string key, .string val, .bool gone] 49))) := HB2.out.trans (HA.out.mono HB2.out.size)
        clear hN hD hF hR' hBa
        go_wp2
        go_ret2
        exact .inr ⟨HM.out, rfl, HBE.out⟩
    · have hML : M.length = n := by omega
      have HE : Hid (res = if R.isEmpty then some M else none) := by
        rw [← HRES.out, ← hML]
        exact ofL_end HR.out.rd HR.out.may
      have hnlt : ¬ (M.length : Int) < (n : Int) := by omega
      cases hRe : R with
      | nil =>
        rw [hRe] at HE HR
        have HF : Hid (∀ W, RDS W w.heap.size base (mk []) true → Calls Tryz.prog 153 #[.pointer (some ⟨w.heap.size + 1, 0, none⟩)] W fun e w' => e = .returned (.bool true) ∧ w' = W) := fun W h => by
          have := ended_ok _ _ _ _ _ h
          rw [isEmpty_mk] at this
          exact this
        clear hRe hlen
        go_wp2_with fail
        refine (HF.out _ HR.out.rds).mono ?_
        rintro e w2 ⟨rfl, hw2⟩
        obtain rfl := hw2.symm
        go_wp2
        go_ret2
        exact .inl ⟨M, V, HE.out, rfl, HR.out.own, HR.out.bel⟩
      | cons x R2 =>
        rw [hRe] at HE HR
        have HF : Hid (∀ W, RDS W w.heap.size base (mk (x :: R2)) true → Calls Tryz.prog 153 #[.pointer (some ⟨w.heap.size + 1, 0, none⟩)] W fun e w' => e = .returned (.bool false) ∧ w' = W) := fun W h => by
          have := ended_ok _ _ _ _ _ h
          rw [isEmpty_mk] at this
          exact this
        clear hRe hlen
        go_wp2_with fail
        refine (HF.out _ HR.out.rds).mono ?_
        rintro e w2 ⟨rfl, hw2⟩
        obtain rfl := hw2.symm
        go_wp2
        go_ret2
        exact .inr ⟨HE.out, rfl, HR.out.bel⟩
/-- What Of answers of whatever bytes. -/
noncomputable def ofO (S : List UInt8) (base n : Int) : Option (List Rec) := if offB base = true ∧ 0 ≤ n then ofL base n.toNat S else none
theorem of_ok (S : List UInt8) (base n : Int) (w : World) (hn : n ≤ 9223372036854775807) (hsz : S.length ≤ 140737488355328) :
    Calls Tryz.prog 75 #[.string (mk S), .int .i64 base, .int .i64 n] w fun e w' => OfEnd w (ofO S base n) e w' := by
  unfold ofO
  by_cases h : offB base = true ∧ 0 ≤ n
  · rw [if_pos h]
    obtain ⟨N, rfl⟩ := Int.eq_ofNat_of_zero_le h.2
    exact of_walk S base N w h.1 (by omega) hsz
  · rw [if_neg h]
    refine of_bad (mk S) base n w ?_
    cases hb : offB base with
    | false => exact .inl rfl
    | true => exact .inr (by rw [hb] at h; simp at h; exact h)
end Go.Proofs.YtcjlcieheepegaaGreatDoor
