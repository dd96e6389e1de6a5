/- The closures that read records out of bytes: what they hold, number, text, ended. -/
import Derived.Test.YtcjlcieheepegaaGreatDoorV12
import Derived.Laws.EntriesVeiled
namespace Go.Proofs.YtcjlcieheepegaaGreatDoor
open Go.RowKit
set_option linter.unusedVariables false
set_option maxRecDepth 20000

def pv (b : Nat) : Value := .pointer (some ⟨b, 0, none⟩)
def numV (B : Nat) : Value := .func (.func 149) #[] #[pv (B + 1), pv (B + 2)]
def textV (B : Nat) : Value := .func (.func 151) #[] #[pv (B + 1), pv (B + 2)]
def nextV (B : Nat) : Value := .func (.func 152) #[] #[pv B, pv (B + 3), pv (B + 4), pv (B + 2)]
def endV (B : Nat) : Value := .func (.func 153) #[] #[pv (B + 1)]
/-- What the closures hold, from block B on. -/
structure RDS (w : World) (B : Nat) (base : Int) (s : ByteArray) (ok : Bool) : Prop where
  hb : w.heap[B]? = some (.cells #[.int .i64 base] 3 (0, 0))
  hr : w.heap[B + 1]? = some (.cells #[.string s] 9 (0, 0))
  ho : w.heap[B + 2]? = some (.cells #[.bool ok] 4 (0, 0))
  hn : w.heap[B + 3]? = some (.cells #[numV B] 33 (0, 0))
  ht : w.heap[B + 4]? = some (.cells #[textV B] 80 (0, 0))
/-- All but what is left and whether all went well is as it was. -/
structure NF (B : Nat) (w w' : World) : Prop where
  os : w'.os = w.os
  tape : w'.tape = w.tape
  output : w'.output = w.output
  size : w.heap.size ≤ w'.heap.size
  block : ∀ k, k < w.heap.size → k ≠ B + 1 → k ≠ B + 2 → w'.heap[k]? = w.heap[k]?
theorem NF.refl (B : Nat) (w : World) : NF B w w := ⟨rfl, rfl, rfl, Nat.le_refl _, fun _ _ _ _ => rfl⟩
theorem NF.trans {B : Nat} {u v w : World} (h : NF B u v) (k : NF B v w) : NF B u w :=
  ⟨k.os.trans h.os, k.tape.trans h.tape, k.output.trans h.output, Nat.le_trans h.size k.size, fun i hl h1 h2 => (k.block i (Nat.lt_of_lt_of_le hl h.size) h1 h2).trans (h.block i hl h1 h2)⟩
theorem NF.of_below {B : Nat} {w w' : World} (h : Below w.heap.size w w') : NF B w w' := ⟨h.os, h.tape, h.output, h.size, fun k hk _ _ => h.block k hk⟩
theorem NF.drew {B : Nat} {w w' : World} (h : NF B w w') : NF B w w'.drew := ⟨h.os, h.tape, h.output, h.size, h.block⟩
theorem NF.undrew {B : Nat} {w w' : World} (h : NF B w.drew w') : NF B w w' := ⟨h.os, h.tape, h.output, h.size, h.block⟩
theorem NF.set1 (B : Nat) (w : World) (u : Value) : NF B w (w.setCell ⟨B + 1, 0, none⟩ u) := ⟨rfl, rfl, rfl, by simp [World.setCell], fun k _ h _ => Below.heap_setCell _ _ _ _ h⟩
theorem NF.set2 (B : Nat) (w : World) (u : Value) : NF B w (w.setCell ⟨B + 2, 0, none⟩ u) := ⟨rfl, rfl, rfl, by simp [World.setCell], fun k _ _ h => Below.heap_setCell _ _ _ _ h⟩
theorem NF.below {B C : Nat} {w w' : World} (h : NF B w w') (hC : C ≤ B) (hs : C ≤ w.heap.size) : Below C w w' :=
  ⟨h.os, h.tape, h.output, h.size, fun k hk => h.block k (by omega) (by omega) (by omega)⟩
theorem RDS.cells {w : World} {B : Nat} {base : Int} {s : ByteArray} {ok : Bool} (h : RDS w B base s ok) :
    w.cell? ⟨B, 0, none⟩ = some (.int .i64 base) ∧ w.cell? ⟨B + 1, 0, none⟩ = some (.string s) ∧ w.cell? ⟨B + 2, 0, none⟩ = some (.bool ok) ∧ w.cell? ⟨B + 3, 0, none⟩ = some (numV B) ∧ w.cell? ⟨B + 4, 0, none⟩ = some (textV B) ∧ w.frozen? ⟨B + 1, 0, none⟩ = false ∧ w.frozen? ⟨B + 2, 0, none⟩ = false :=
  ⟨by simp [World.cell?, h.hb], by simp [World.cell?, h.hr], by simp [World.cell?, h.ho], by simp [World.cell?, h.hn], by simp [World.cell?, h.ht], by simp [World.frozen?, h.hr], by simp [World.frozen?, h.ho]⟩
theorem RDS.lt {w : World} {B : Nat} {base : Int} {s : ByteArray} {ok : Bool} (h : RDS w B base s ok) : B + 4 < w.heap.size := lt_of_block h.ht
theorem RDS.set1 {w : World} {B : Nat} {base : Int} {s : ByteArray} {ok : Bool} (h : RDS w B base s ok) (t : ByteArray) : RDS (w.setCell ⟨B + 1, 0, none⟩ (.string t)) B base t ok :=
  ⟨(Below.heap_setCell _ _ _ _ (by simp)).trans h.hb, (block_setCell h.hr).trans (by simp), (Below.heap_setCell _ _ _ _ (by simp)).trans h.ho, (Below.heap_setCell _ _ _ _ (by simp)).trans h.hn, (Below.heap_setCell _ _ _ _ (by simp)).trans h.ht⟩
theorem RDS.set2 {w : World} {B : Nat} {base : Int} {s : ByteArray} {ok : Bool} (h : RDS w B base s ok) (t : Bool) : RDS (w.setCell ⟨B + 2, 0, none⟩ (.bool t)) B base s t :=
  ⟨(Below.heap_setCell _ _ _ _ (by simp)).trans h.hb, (Below.heap_setCell _ _ _ _ (by simp)).trans h.hr, (block_setCell h.ho).trans (by simp), (Below.heap_setCell _ _ _ _ (by simp)).trans h.hn, (Below.heap_setCell _ _ _ _ (by simp)).trans h.ht⟩
theorem RDS.below {w w' : World} {B : Nat} {base : Int} {s : ByteArray} {ok : Bool} (h : RDS w B base s ok) (hb : Below w.heap.size w w') : RDS w' B base s ok := by
  have := h.lt
  exact ⟨(hb.block _ (by omega)).trans h.hb, (hb.block _ (by omega)).trans h.hr, (hb.block _ (by omega)).trans h.ho, (hb.block _ (by omega)).trans h.hn, (hb.block _ (by omega)).trans h.ht⟩
theorem RDS.drew {w : World} {B : Nat} {base : Int} {s : ByteArray} {ok : Bool} (h : RDS w B base s ok) : RDS w.drew B base s ok := ⟨h.hb, h.hr, h.ho, h.hn, h.ht⟩
theorem push5 (h : Array Obj) (a b c d e : Obj) : let g := ((((h.push a).push b).push c).push d).push e
    g[h.size]? = some a ∧ g[h.size + 1]? = some b ∧ g[h.size + 2]? = some c ∧ g[h.size + 3]? = some d ∧ g[h.size + 4]? = some e := by
  refine ⟨?_, ?_, ?_, ?_, ?_⟩
  · simp only [Array.getElem?_push, Array.size_push]; rw [if_neg (by omega), if_neg (by omega), if_neg (by omega), if_neg (by omega), if_pos trivial]
  · simp only [Array.getElem?_push, Array.size_push]; rw [if_neg (by omega), if_neg (by omega), if_neg (by omega), if_pos trivial]
  · simp only [Array.getElem?_push, Array.size_push]; rw [if_neg (by omega), if_neg (by omega), if_pos trivial]
  · simp only [Array.getElem?_push, Array.size_push]; rw [if_neg (by omega), if_pos trivial]
  · simp only [Array.getElem?_push, Array.size_push]; rw [if_pos trivial]
theorem reader_ok (s : ByteArray) (base : Int) (w : World) :
    Calls Tryz.prog 102 #[.string s, .int .i64 base] w fun e w' => e = .returned (.tuple #[nextV w.heap.size, endV w.heap.size]) ∧ RDS w' w.heap.size base s true ∧ Below w.heap.size w w' := by
  have hmf : ∀ (fn : Fn) (first cap : Array Value) (w : World), (Instr.makeFunc fn first cap).run Tryz.prog w = .ok (.func fn first cap) w := fun _ _ _ _ => rfl
  go_enter Tryz.func102, Tryz.ntmps102
  go_wp2
  go_ret2
  refine ⟨rfl, ?_, ?_⟩
  · obtain ⟨h1, h2, h3, h4, h5⟩ := push5 w.heap (.cells #[.int .i64 base] 3) (.cells #[.string s] 9) (.cells #[.bool true] 4) (.cells #[numV w.heap.size] 33) (.cells #[textV w.heap.size] 80)
    exact ⟨h1, h2, h3, h4, h5⟩
  · exact ((((((Below.refl _ _).alloc (Nat.le_refl _) _).alloc (by simp) _).alloc (by simp <;> omega) _).alloc (by simp <;> omega) _).alloc (by simp <;> omega) _)
theorem ended_ok (B : Nat) (base : Int) (s : ByteArray) (ok : Bool) (w : World) (h : RDS w B base s ok) :
    Calls Tryz.prog 153 #[pv (B + 1)] w fun e w' => e = .returned (.bool s.toList.isEmpty) ∧ w' = w := by
  obtain ⟨c0, c1, c2, c3, c4, f1, f2⟩ := h.cells
  clear h c0 c2 c3 c4 f1 f2
  unfold pv
  go_enter Tryz.func153, Tryz.ntmps153
  go_wp2
  go_ret
  exact ⟨rfl, rfl⟩
/-- How a number is read: x and the bytes behind it, or none. -/
def NumE (s : ByteArray) (x : Int) (t : ByteArray) (g : Bool) : Prop :=
  (∃ X n, varD s = some (X, n) ∧ x = (X : Nat) ∧ t = s.extract n s.size ∧ g = true) ∨ (varD s = none ∧ x = 0 ∧ t.size ≤ s.size ∧ g = false)
set_option maxHeartbeats 1000000 in
theorem number_ok (B : Nat) (base : Int) (s : ByteArray) (ok : Bool) (w : World) (h : RDS w B base s ok) (hsz : s.size ≤ 9223372036854775807) :
    Calls Tryz.prog 149 #[pv (B + 1), pv (B + 2)] w fun e w' => ∃ x t g, NumE s x t g ∧ e = .returned (.int .i64 x) ∧ RDS w' B base t (ok && g) ∧ NF B w w' := by
  obtain ⟨c0, c1, c2, c3, c4, f1, f2⟩ := h.cells
  have HR : Hid (RDS w B base s ok) := h
  obtain ⟨r, hr, hv⟩ := var_ways s hsz
  clear h c0 c3 c4
  unfold pv
  rcases hr with ⟨X, n, hd, he⟩ | ⟨hd, he⟩
  · cases he
    obtain ⟨hx, hn1, hn9, hns⟩ := varD_le hd
    have HD : Hid (varD s = some (X, n)) := hd
    clear hd
    have d1 : (w.setCell ⟨B + 2, 0, none⟩ (.bool ok)).cell? ⟨B + 1, 0, none⟩ = some (.string s) := (HR.out.set2 ok).cells.2.1
    have d2 : (w.setCell ⟨B + 2, 0, none⟩ (.bool ok)).frozen? ⟨B + 1, 0, none⟩ = false := (HR.out.set2 ok).cells.2.2.2.2.2.1
    have HE : Hid (RDS ((w.setCell ⟨B + 2, 0, none⟩ (.bool ok)).setCell ⟨B + 1, 0, none⟩ (.string (s.extract n s.size))) B base (s.extract n s.size) ok ∧ NF B w ((w.setCell ⟨B + 2, 0, none⟩ (.bool ok)).setCell ⟨B + 1, 0, none⟩ (.string (s.extract n s.size)))) :=
      ⟨(HR.out.set2 ok).set1 _, (NF.set2 _ _ _).trans (NF.set1 _ _ _)⟩
    go_enter Tryz.func149, Tryz.ntmps149
    go_wp2_with fail
    refine (hv _).mono ?_
    rintro e w1 ⟨rfl, hw⟩
    obtain rfl := hw.symm
    cases ok
    all_goals
      go_wp2
      go_ret
      exact ⟨_, _, true, .inl ⟨X, n, HD.out, rfl, rfl, rfl⟩, rfl, HE.out.1, HE.out.2⟩
  · have HD : Hid (varD s = none) := hd
    clear hd
    have d1 : (w.setCell ⟨B + 2, 0, none⟩ (.bool false)).cell? ⟨B + 1, 0, none⟩ = some (.string s) := (HR.out.set2 false).cells.2.1
    have d2 : (w.setCell ⟨B + 2, 0, none⟩ (.bool false)).frozen? ⟨B + 1, 0, none⟩ = false := (HR.out.set2 false).cells.2.2.2.2.2.1
    have HE : Hid (∀ t, RDS ((w.setCell ⟨B + 2, 0, none⟩ (.bool false)).setCell ⟨B + 1, 0, none⟩ (.string t)) B base t false ∧ NF B w ((w.setCell ⟨B + 2, 0, none⟩ (.bool false)).setCell ⟨B + 1, 0, none⟩ (.string t))) :=
      fun t => ⟨(HR.out.set2 false).set1 _, (NF.set2 _ _ _).trans (NF.set1 _ _ _)⟩
    have hx0 : (s.extract 0 s.size).size ≤ s.size := by simp
    rcases he with he | he
    all_goals
      cases he
      go_enter Tryz.func149, Tryz.ntmps149
      go_wp2_with fail
      refine (hv _).mono ?_
      rintro e w1 ⟨rfl, hw⟩
      obtain rfl := hw.symm
      cases ok
      all_goals
        go_wp2
        go_ret
        exact ⟨0, _, false, .inr ⟨HD.out, rfl, (by first | exact hx0 | simp), rfl⟩, rfl, (HE.out _).1, (HE.out _).2⟩
/-- How so many bytes are taken. -/
def TextE (s : ByteArray) (n : Nat) (p t : ByteArray) (g : Bool) : Prop :=
  (n ≤ s.size ∧ p = s.extract 0 n ∧ t = s.extract n s.size ∧ g = true) ∨ (s.size < n ∧ p = ⟨#[]⟩ ∧ t = s ∧ g = false)
set_option maxHeartbeats 1000000 in
theorem text_ok (B : Nat) (base : Int) (s : ByteArray) (ok : Bool) (n : Nat) (w : World) (h : RDS w B base s ok) (hsz : s.size ≤ 140737488355328) (hn : n ≤ 9223372036854775807) :
    Calls Tryz.prog 151 #[.int .i64 n, pv (B + 1), pv (B + 2)] w fun e w' => ∃ p t g, TextE s n p t g ∧ e = .returned (.string p) ∧ RDS w' B base t (ok && g) ∧ NF B w w' := by
  obtain ⟨c0, c1, c2, c3, c4, f1, f2⟩ := h.cells
  have HR : Hid (RDS w B base s ok) := h
  clear h c0 c3 c4
  unfold pv
  by_cases hlt : n ≤ s.size
  · have hxs : (s.extract 0 n).size ≤ 281474976710656 := by rw [ByteArray.size_extract]; omega
    have HCL : Hid (∀ W, Calls Tryz.prog 43 #[.string (s.extract 0 n)] W fun e w' => e = .returned (.string (s.extract 0 n)) ∧ Below W.heap.size W w') := fun W => clone _ W hxs
    clear hxs
    go_enter Tryz.func151, Tryz.ntmps151
    go_wp2_with fail
    refine (HCL.out _).mono ?_
    rintro e w1 ⟨rfl, hb1⟩
    have HR1 : Hid (RDS w1 B base s ok) := HR.out.below hb1
    have HF1 : Hid (NF B w w1) := NF.of_below hb1
    clear hb1 c1 c2 f1 f2
    obtain ⟨c0, c1, c2, c3, c4, f1, f2⟩ := HR1.out.cells
    clear c0 c3 c4
    have HE : Hid (RDS (w1.setCell ⟨B + 1, 0, none⟩ (.string (s.extract n s.size))) B base (s.extract n s.size) ok ∧ NF B w (w1.setCell ⟨B + 1, 0, none⟩ (.string (s.extract n s.size)))) := ⟨HR1.out.set1 _, HF1.out.trans (NF.set1 _ _ _)⟩
    go_wp2
    go_ret
    exact ⟨_, _, true, .inl ⟨hlt, rfl, rfl, rfl⟩, rfl, by rw [Bool.and_true]; exact HE.out.1, HE.out.2⟩
  · have HE : Hid (RDS (w.setCell ⟨B + 2, 0, none⟩ (.bool false)) B base s false ∧ NF B w (w.setCell ⟨B + 2, 0, none⟩ (.bool false))) := ⟨HR.out.set2 _, NF.set2 _ _ _⟩
    go_enter Tryz.func151, Tryz.ntmps151
    go_wp2
    go_ret
    exact ⟨_, _, false, .inr ⟨by omega, rfl, rfl, rfl⟩, rfl, by rw [Bool.and_false]; exact HE.out.1, HE.out.2⟩
end Go.Proofs.YtcjlcieheepegaaGreatDoor
