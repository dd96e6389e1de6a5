/- Messages out of bytes: what read holds while it takes the numbers. -/
/- Messages out of bytes: read, its numbers. -/
/- The walk of RecordBack. -/
/- Messages out of bytes: what read holds while it takes the texts, and its end. -/
/- The document's numbers, and its Same of records. -/
import Derived.Test.YtalpbnkmppdgdaaV13
import Derived.Test.YtalpbnkmppdgdaaV12
import Derived.Test.YtalpbnkmppdgdaaV11
import Derived.Test.YtalpbnkmppdgdaaV09
namespace Go.Proofs.Ytalpbnkmppdgdaa
open Go.RowKit
set_option linter.unusedVariables false

abbrev zero13 : Array Value := #[.int .i64 0, .int .i64 0, .int .i64 0, .int .i64 0, .int .i64 0, .int .i64 0, .int .i64 0, .int .i64 0, .int .i64 0, .int .i64 0, .int .i64 0, .slice none 0 0, .slice none 0 0]
/-- The cells of a message whose numbers are taken so far. -/
def mc (l : List Nat) (e : Value) (v : Value) : Array Value := #[.int .i64 (l.getD 0 0 : Nat), .int .i64 (l.getD 1 0 : Nat), .int .i64 (l.getD 2 0 : Nat), .int .i64 (l.getD 3 0 : Nat), .int .i64 (l.getD 4 0 : Nat), .int .i64 (l.getD 5 0 : Nat), .int .i64 (l.getD 6 0 : Nat), e, .int .i64 (l.getD 8 0 : Nat), .int .i64 (l.getD 9 0 : Nat), .int .i64 (l.getD 10 0 : Nat), v, .slice none 0 0]
def ptrs (B : Nat) : Array Value := #[.pointer (some ⟨B + 3, 0, none⟩), .pointer (some ⟨B + 3, 1, none⟩), .pointer (some ⟨B + 3, 2, none⟩), .pointer (some ⟨B + 3, 3, none⟩), .pointer (some ⟨B + 3, 4, none⟩), .pointer (some ⟨B + 3, 5, none⟩), .pointer (some ⟨B + 3, 6, none⟩), .pointer (some ⟨B + 4, 0, none⟩), .pointer (some ⟨B + 3, 8, none⟩), .pointer (some ⟨B + 3, 9, none⟩), .pointer (some ⟨B + 3, 10, none⟩), .pointer (some ⟨B + 5, 0, none⟩)]
structure RM (w : World) (B : Nat) (l : List Nat) : Prop where
  h0 : w.heap[B]? = some (.cells zero13 28 (0, 0))
  hm : w.heap[B + 3]? = some (.cells (mc l (.int .i64 0) (.slice none 0 0)) 28 (0, 0))
  he : w.heap[B + 4]? = some (.cells #[.int .i64 (l.getD 7 0 : Nat)] 3 (0, 0))
  ht : w.heap[B + 5]? = some (.cells #[.int .i64 (l.getD 11 0 : Nat)] 3 (0, 0))
  hp : w.heap[B + 6]? = some (.cells (ptrs B) 77 (0, 0))
theorem RM.nf {w w' : World} {B : Nat} {l : List Nat} (h : RM w B l) (hf : NF B w w') : RM w' B l :=
  ⟨(hf.block _ (lt_of_block h.h0) (by omega) (by omega)).trans h.h0, (hf.block _ (lt_of_block h.hm) (by omega) (by omega)).trans h.hm, (hf.block _ (lt_of_block h.he) (by omega) (by omega)).trans h.he, (hf.block _ (lt_of_block h.ht) (by omega) (by omega)).trans h.ht, (hf.block _ (lt_of_block h.hp) (by omega) (by omega)).trans h.hp⟩
theorem RM.set0 {w : World} {B : Nat} {x : Nat} (h : RM w B []) : RM (w.setCell ⟨B + 3, 0, none⟩ (.int .i64 (x : Nat))) B [x] :=
  ⟨(Below.heap_setCell _ _ _ _ (by simp)).trans h.h0, (block_setCell h.hm).trans (by simp [mc]), (Below.heap_setCell _ _ _ _ (by simp)).trans h.he, (Below.heap_setCell _ _ _ _ (by simp)).trans h.ht, (Below.heap_setCell _ _ _ _ (by simp)).trans h.hp⟩
theorem RM.set1 {w : World} {B : Nat} {a0 x : Nat} (h : RM w B [a0]) : RM (w.setCell ⟨B + 3, 1, none⟩ (.int .i64 (x : Nat))) B [a0, x] :=
  ⟨(Below.heap_setCell _ _ _ _ (by simp)).trans h.h0, (block_setCell h.hm).trans (by simp [mc]), (Below.heap_setCell _ _ _ _ (by simp)).trans h.he, (Below.heap_setCell _ _ _ _ (by simp)).trans h.ht, (Below.heap_setCell _ _ _ _ (by simp)).trans h.hp⟩
theorem RM.set2 {w : World} {B : Nat} {a0 a1 x : Nat} (h : RM w B [a0, a1]) : RM (w.setCell ⟨B + 3, 2, none⟩ (.int .i64 (x : Nat))) B [a0, a1, x] :=
  ⟨(Below.heap_setCell _ _ _ _ (by simp)).trans h.h0, (block_setCell h.hm).trans (by simp [mc]), (Below.heap_setCell _ _ _ _ (by simp)).trans h.he, (Below.heap_setCell _ _ _ _ (by simp)).trans h.ht, (Below.heap_setCell _ _ _ _ (by simp)).trans h.hp⟩
theorem RM.set3 {w : World} {B : Nat} {a0 a1 a2 x : Nat} (h : RM w B [a0, a1, a2]) : RM (w.setCell ⟨B + 3, 3, none⟩ (.int .i64 (x : Nat))) B [a0, a1, a2, x] :=
  ⟨(Below.heap_setCell _ _ _ _ (by simp)).trans h.h0, (block_setCell h.hm).trans (by simp [mc]), (Below.heap_setCell _ _ _ _ (by simp)).trans h.he, (Below.heap_setCell _ _ _ _ (by simp)).trans h.ht, (Below.heap_setCell _ _ _ _ (by simp)).trans h.hp⟩
theorem RM.set4 {w : World} {B : Nat} {a0 a1 a2 a3 x : Nat} (h : RM w B [a0, a1, a2, a3]) : RM (w.setCell ⟨B + 3, 4, none⟩ (.int .i64 (x : Nat))) B [a0, a1, a2, a3, x] :=
  ⟨(Below.heap_setCell _ _ _ _ (by simp)).trans h.h0, (block_setCell h.hm).trans (by simp [mc]), (Below.heap_setCell _ _ _ _ (by simp)).trans h.he, (Below.heap_setCell _ _ _ _ (by simp)).trans h.ht, (Below.heap_setCell _ _ _ _ (by simp)).trans h.hp⟩
theorem RM.set5 {w : World} {B : Nat} {a0 a1 a2 a3 a4 x : Nat} (h : RM w B [a0, a1, a2, a3, a4]) : RM (w.setCell ⟨B + 3, 5, none⟩ (.int .i64 (x : Nat))) B [a0, a1, a2, a3, a4, x] :=
  ⟨(Below.heap_setCell _ _ _ _ (by simp)).trans h.h0, (block_setCell h.hm).trans (by simp [mc]), (Below.heap_setCell _ _ _ _ (by simp)).trans h.he, (Below.heap_setCell _ _ _ _ (by simp)).trans h.ht, (Below.heap_setCell _ _ _ _ (by simp)).trans h.hp⟩
theorem RM.set6 {w : World} {B : Nat} {a0 a1 a2 a3 a4 a5 x : Nat} (h : RM w B [a0, a1, a2, a3, a4, a5]) : RM (w.setCell ⟨B + 3, 6, none⟩ (.int .i64 (x : Nat))) B [a0, a1, a2, a3, a4, a5, x] :=
  ⟨(Below.heap_setCell _ _ _ _ (by simp)).trans h.h0, (block_setCell h.hm).trans (by simp [mc]), (Below.heap_setCell _ _ _ _ (by simp)).trans h.he, (Below.heap_setCell _ _ _ _ (by simp)).trans h.ht, (Below.heap_setCell _ _ _ _ (by simp)).trans h.hp⟩
theorem RM.set7 {w : World} {B : Nat} {a0 a1 a2 a3 a4 a5 a6 x : Nat} (h : RM w B [a0, a1, a2, a3, a4, a5, a6]) : RM (w.setCell ⟨B + 4, 0, none⟩ (.int .i64 (x : Nat))) B [a0, a1, a2, a3, a4, a5, a6, x] :=
  ⟨(Below.heap_setCell _ _ _ _ (by simp)).trans h.h0, (Below.heap_setCell _ _ _ _ (by simp)).trans h.hm, (block_setCell h.he).trans (by simp), (Below.heap_setCell _ _ _ _ (by simp)).trans h.ht, (Below.heap_setCell _ _ _ _ (by simp)).trans h.hp⟩
theorem RM.set8 {w : World} {B : Nat} {a0 a1 a2 a3 a4 a5 a6 a7 x : Nat} (h : RM w B [a0, a1, a2, a3, a4, a5, a6, a7]) : RM (w.setCell ⟨B + 3, 8, none⟩ (.int .i64 (x : Nat))) B [a0, a1, a2, a3, a4, a5, a6, a7, x] :=
  ⟨(Below.heap_setCell _ _ _ _ (by simp)).trans h.h0, (block_setCell h.hm).trans (by simp [mc]), (Below.heap_setCell _ _ _ _ (by simp)).trans h.he, (Below.heap_setCell _ _ _ _ (by simp)).trans h.ht, (Below.heap_setCell _ _ _ _ (by simp)).trans h.hp⟩
theorem RM.set9 {w : World} {B : Nat} {a0 a1 a2 a3 a4 a5 a6 a7 a8 x : Nat} (h : RM w B [a0, a1, a2, a3, a4, a5, a6, a7, a8]) : RM (w.setCell ⟨B + 3, 9, none⟩ (.int .i64 (x : Nat))) B [a0, a1, a2, a3, a4, a5, a6, a7, a8, x] :=
  ⟨(Below.heap_setCell _ _ _ _ (by simp)).trans h.h0, (block_setCell h.hm).trans (by simp [mc]), (Below.heap_setCell _ _ _ _ (by simp)).trans h.he, (Below.heap_setCell _ _ _ _ (by simp)).trans h.ht, (Below.heap_setCell _ _ _ _ (by simp)).trans h.hp⟩
theorem RM.set10 {w : World} {B : Nat} {a0 a1 a2 a3 a4 a5 a6 a7 a8 a9 x : Nat} (h : RM w B [a0, a1, a2, a3, a4, a5, a6, a7, a8, a9]) : RM (w.setCell ⟨B + 3, 10, none⟩ (.int .i64 (x : Nat))) B [a0, a1, a2, a3, a4, a5, a6, a7, a8, a9, x] :=
  ⟨(Below.heap_setCell _ _ _ _ (by simp)).trans h.h0, (block_setCell h.hm).trans (by simp [mc]), (Below.heap_setCell _ _ _ _ (by simp)).trans h.he, (Below.heap_setCell _ _ _ _ (by simp)).trans h.ht, (Below.heap_setCell _ _ _ _ (by simp)).trans h.hp⟩
theorem RM.set11 {w : World} {B : Nat} {a0 a1 a2 a3 a4 a5 a6 a7 a8 a9 a10 x : Nat} (h : RM w B [a0, a1, a2, a3, a4, a5, a6, a7, a8, a9, a10]) : RM (w.setCell ⟨B + 5, 0, none⟩ (.int .i64 (x : Nat))) B [a0, a1, a2, a3, a4, a5, a6, a7, a8, a9, a10, x] :=
  ⟨(Below.heap_setCell _ _ _ _ (by simp)).trans h.h0, (Below.heap_setCell _ _ _ _ (by simp)).trans h.hm, (Below.heap_setCell _ _ _ _ (by simp)).trans h.he, (block_setCell h.ht).trans (by simp), (Below.heap_setCell _ _ _ _ (by simp)).trans h.hp⟩
/-- Where the number i goes. -/
theorem RM.place {w : World} {B : Nat} {l : List Nat} (h : RM w B l) (hl : l.length < 12) : ∃ pb pj, w.cell? ⟨B + 6, l.length, none⟩ = some (.pointer (some ⟨pb, pj, none⟩)) ∧ B ≤ pb ∧ pb ≠ B + 1 ∧ pb ≠ B + 2 ∧
    (∀ w' : World, RM w' B l → w'.cell? ⟨pb, pj, none⟩ = some (.int .i64 0) ∧ w'.frozen? ⟨pb, pj, none⟩ = false ∧ ∀ x : Nat, RM (w'.setCell ⟨pb, pj, none⟩ (.int .i64 (x : Nat))) B (l ++ [x])) := by
  match l, hl, h with
  | [], _, h => exact ⟨B + 3, 0, by simp [World.cell?, h.hp, ptrs], by omega, by omega, by omega, fun w' h' => ⟨by simp [World.cell?, h'.hm, mc], by simp [World.frozen?, h'.hm], fun x => h'.set0⟩⟩
  | [a0], _, h => exact ⟨B + 3, 1, by simp [World.cell?, h.hp, ptrs], by omega, by omega, by omega, fun w' h' => ⟨by simp [World.cell?, h'.hm, mc], by simp [World.frozen?, h'.hm], fun x => h'.set1⟩⟩
  | [a0, a1], _, h => exact ⟨B + 3, 2, by simp [World.cell?, h.hp, ptrs], by omega, by omega, by omega, fun w' h' => ⟨by simp [World.cell?, h'.hm, mc], by simp [World.frozen?, h'.hm], fun x => h'.set2⟩⟩
  | [a0, a1, a2], _, h => exact ⟨B + 3, 3, by simp [World.cell?, h.hp, ptrs], by omega, by omega, by omega, fun w' h' => ⟨by simp [World.cell?, h'.hm, mc], by simp [World.frozen?, h'.hm], fun x => h'.set3⟩⟩
  | [a0, a1, a2, a3], _, h => exact ⟨B + 3, 4, by simp [World.cell?, h.hp, ptrs], by omega, by omega, by omega, fun w' h' => ⟨by simp [World.cell?, h'.hm, mc], by simp [World.frozen?, h'.hm], fun x => h'.set4⟩⟩
  | [a0, a1, a2, a3, a4], _, h => exact ⟨B + 3, 5, by simp [World.cell?, h.hp, ptrs], by omega, by omega, by omega, fun w' h' => ⟨by simp [World.cell?, h'.hm, mc], by simp [World.frozen?, h'.hm], fun x => h'.set5⟩⟩
  | [a0, a1, a2, a3, a4, a5], _, h => exact ⟨B + 3, 6, by simp [World.cell?, h.hp, ptrs], by omega, by omega, by omega, fun w' h' => ⟨by simp [World.cell?, h'.hm, mc], by simp [World.frozen?, h'.hm], fun x => h'.set6⟩⟩
  | [a0, a1, a2, a3, a4, a5, a6], _, h => exact ⟨B + 4, 0, by simp [World.cell?, h.hp, ptrs], by omega, by omega, by omega, fun w' h' => ⟨by simp [World.cell?, h'.he], by simp [World.frozen?, h'.he], fun x => h'.set7⟩⟩
  | [a0, a1, a2, a3, a4, a5, a6, a7], _, h => exact ⟨B + 3, 8, by simp [World.cell?, h.hp, ptrs], by omega, by omega, by omega, fun w' h' => ⟨by simp [World.cell?, h'.hm, mc], by simp [World.frozen?, h'.hm], fun x => h'.set8⟩⟩
  | [a0, a1, a2, a3, a4, a5, a6, a7, a8], _, h => exact ⟨B + 3, 9, by simp [World.cell?, h.hp, ptrs], by omega, by omega, by omega, fun w' h' => ⟨by simp [World.cell?, h'.hm, mc], by simp [World.frozen?, h'.hm], fun x => h'.set9⟩⟩
  | [a0, a1, a2, a3, a4, a5, a6, a7, a8, a9], _, h => exact ⟨B + 3, 10, by simp [World.cell?, h.hp, ptrs], by omega, by omega, by omega, fun w' h' => ⟨by simp [World.cell?, h'.hm, mc], by simp [World.frozen?, h'.hm], fun x => h'.set10⟩⟩
  | [a0, a1, a2, a3, a4, a5, a6, a7, a8, a9, a10], _, h => exact ⟨B + 5, 0, by simp [World.cell?, h.hp, ptrs], by omega, by omega, by omega, fun w' h' => ⟨by simp [World.cell?, h'.ht], by simp [World.frozen?, h'.ht], fun x => h'.set11⟩⟩
  | a0 :: a1 :: a2 :: a3 :: a4 :: a5 :: a6 :: a7 :: a8 :: a9 :: a10 :: a11 :: T, hl, _ => simp at hl; omega
end Go.Proofs.Ytalpbnkmppdgdaa
namespace Go.Proofs.Ytalpbnkmppdgdaa
open Go.RowKit
set_option linter.unusedVariables false

/-- What the numbers taken so far are. -/
def NumsE (S : List UInt8) (l : List Nat) (t : ByteArray) (ok : Bool) : Prop :=
  (ok = true ∧ ∃ R, t = mk R ∧ rdNums l.length S = some (l, R)) ∨ (ok = false ∧ rdNums 12 S = none)
theorem NumsE.more {S : List UInt8} {l : List Nat} {s t : ByteArray} {ok g : Bool} {x : Nat} (h : NumsE S l s ok) (hl : l.length < 12) (hn : NumN s x t g) : NumsE S (l ++ [x]) t (ok && g) := by
  rcases h with ⟨rfl, R, rfl, hr⟩ | ⟨rfl, hr⟩
  · rcases hn with ⟨n, hv, rfl, rfl⟩ | ⟨hv, rfl, _, rfl⟩
    · refine .inl ⟨rfl, R.drop n, extract_drop R n, ?_⟩
      rw [List.length_append]
      exact rdNums_snoc hr hv
    · refine .inr ⟨rfl, ?_⟩
      have := rdNums_stop (k := 11 - l.length) hr hv
      rw [show l.length + (11 - l.length + 1) = 12 by omega] at this
      exact this
  · exact .inr ⟨by simp, hr⟩
/-- What a round keeps. -/
structure NR (w wr : World) (S : List UInt8) (l : List Nat) (t : ByteArray) (ok : Bool) : Prop where
  rd : RD wr w.heap.size t ok
  rm : RM wr w.heap.size l
  bel : Below w.heap.size w wr
  nums : NumsE S l t ok
  sz : t.size ≤ S.length
  le : ∀ x ∈ l, x ≤ 9223372036854775807
theorem push7 (h : Array Obj) (a b c d e f g : Obj) : let k := ((((((h.push a).push b).push c).push d).push e).push f).push g
    k[h.size]? = some a ∧ k[h.size + 1]? = some b ∧ k[h.size + 2]? = some c ∧ k[h.size + 3]? = some d ∧ k[h.size + 4]? = some e ∧ k[h.size + 5]? = some f ∧ k[h.size + 6]? = some g := by
  refine ⟨?_, ?_, ?_, ?_, ?_, ?_, ?_⟩
  · simp only [Array.getElem?_push, Array.size_push]; rw [if_neg (by omega), if_neg (by omega), if_neg (by omega), if_neg (by omega), if_neg (by omega), if_neg (by omega), if_pos trivial]
  · simp only [Array.getElem?_push, Array.size_push]; rw [if_neg (by omega), if_neg (by omega), if_neg (by omega), if_neg (by omega), if_neg (by omega), if_pos trivial]
  · simp only [Array.getElem?_push, Array.size_push]; rw [if_neg (by omega), if_neg (by omega), if_neg (by omega), if_neg (by omega), if_pos trivial]
  · simp only [Array.getElem?_push, Array.size_push]; rw [if_neg (by omega), if_neg (by omega), if_neg (by omega), if_pos trivial]
  · simp only [Array.getElem?_push, Array.size_push]; rw [if_neg (by omega), if_neg (by omega), if_pos trivial]
  · simp only [Array.getElem?_push, Array.size_push]; rw [if_neg (by omega), if_pos trivial]
  · simp only [Array.getElem?_push, Array.size_push]; rw [if_pos trivial]
def rw7 (w : World) (s : ByteArray) : World := ((((((w.alloc (.cells zero13 28)).alloc (.cells #[.string s] 9)).alloc (.cells #[.bool true] 4)).alloc (.cells zero13 28)).alloc (.cells #[.int .i64 0] 3)).alloc (.cells #[.int .i64 0] 3)).alloc (.cells (ptrs w.heap.size) 77)
theorem nr_start (w : World) (S : List UInt8) : NR w (rw7 w (mk S)) S [] (mk S) true := by
  obtain ⟨h1, h2, h3, h4, h5, h6, h7⟩ := push7 w.heap (.cells zero13 28) (.cells #[.string (mk S)] 9) (.cells #[.bool true] 4) (.cells zero13 28) (.cells #[.int .i64 0] 3) (.cells #[.int .i64 0] 3) (.cells (ptrs w.heap.size) 77)
  refine ⟨⟨h2, h3⟩, ⟨h1, h4, h5, h6, h7⟩, ?_, .inl ⟨rfl, S, rfl, rfl⟩, by rw [mk_size]; exact Nat.le_refl _, fun x hx => by cases hx⟩
  exact ((((((((Below.refl _ _).alloc (Nat.le_refl _) _).alloc (by simp) _).alloc (by simp <;> omega) _).alloc (by simp <;> omega) _).alloc (by simp <;> omega) _).alloc (by simp <;> omega) _).alloc (by simp <;> omega) _)
end Go.Proofs.Ytalpbnkmppdgdaa
namespace Go.Proofs.Ytalpbnkmppdgdaa
open Go.RowKit
set_option linter.unusedVariables false

theorem Own.slice {w : World} {B : Nat} {v : Value} {L : List Rec} (h : Own w B v L) : ∃ a c, v = .slice a L.length c ∧ RIn w a L := by
  cases L with
  | nil =>
    rcases h.2 with ⟨rfl, _⟩ | ⟨g, cap, cur, rfl, _, _⟩
    · exact ⟨none, 0, rfl, RIn.nil _ _⟩
    · exact ⟨_, cap, rfl, RIn.nil _ _⟩
  | cons r L =>
    obtain ⟨g, cap, rfl, _, _, hin⟩ := h.row
    exact ⟨_, cap, rfl, hin⟩
theorem append_x (S : List UInt8) : mk S ++ ⟨#[120]⟩ = mk (S ++ [120]) := by
  apply ByteArray.ext
  rw [ByteArray.data_append]
  simp [mk]
/-- What Of answers where there are records. -/
theorem of_some (S : List UInt8) (base n : Int) (L : List Rec) (w : World) (hn : n ≤ 9223372036854775807) (hS : S.length ≤ 140737488355328) (h : ofO S base n = some L) :
    Calls Try.prog 46 #[.string (mk S), .int .i64 base, .int .i64 n] w fun e w' => ∃ a c, e = .returned (.tuple #[.slice a L.length c, .int .i64 0]) ∧ RIn w' a L ∧ Below w.heap.size w w' := by
  refine (of_ok S base n w hn hS).mono ?_
  rw [h]
  rintro e w' (⟨M, v, h1, rfl, h3, h4⟩ | ⟨h1, _⟩)
  · cases h1
    obtain ⟨a, c, rfl, hin⟩ := h3.slice
    exact ⟨a, c, rfl, hin, h4⟩
  · cases h1
theorem of_none (S : List UInt8) (base n : Int) (w : World) (hn : n ≤ 9223372036854775807) (hS : S.length ≤ 140737488355328) (h : ofO S base n = none) :
    Calls Try.prog 46 #[.string (mk S), .int .i64 base, .int .i64 n] w fun e w' => e = .returned (.tuple #[.slice none 0 0, .int .i64 90]) ∧ Below w.heap.size w w' := by
  refine (of_ok S base n w hn hS).mono ?_
  rw [h]
  rintro e w' (⟨M, v, h1, _⟩ | ⟨_, rfl, h4⟩)
  · cases h1
  · exact ⟨rfl, h4⟩
end Go.Proofs.Ytalpbnkmppdgdaa
namespace Go.Proofs.Ytalpbnkmppdgdaa
open Go.RowKit
set_option linter.unusedVariables false

theorem strInfo : (Try.prog.info? 9).map (fun i => (i.zero, i.size, i.bytes)) = some (some (.string ⟨#[]⟩), 1, 16) := by kernel_rfl
/-- A row of texts of the call's own. -/
def OT (w : World) (B : Nat) (v : Value) (T : List ByteArray) : Prop := w.ownsRow B 9 1 v T.length (T.map Value.string)
theorem OT.nil (w : World) (B : Nat) : OT w B (.slice none 0 0) [] := World.ownsRow_nil _ _ _ _
theorem OT.keep {w w' : World} {B : Nat} {v : Value} {T : List ByteArray} (h : OT w B v T) (hb : ∀ k, B ≤ k → k < w.heap.size → w'.heap[k]? = w.heap[k]?) : OT w' B v T := by
  obtain ⟨h1, h2⟩ := h
  refine ⟨h1, ?_⟩
  rcases h2 with h2 | ⟨g, cap, cur, h3, h4, h5, r⟩
  · exact .inl h2
  · exact .inr ⟨g, cap, cur, h3, h4, (hb g h4 (lt_of_block h5)).trans h5, r⟩
theorem OT.far {w : World} {B : Nat} {v : Value} {T : List ByteArray} (h : OT w B v T) {k : Nat} (hk : k < B) : some k ≠ v.ownBlock := by
  rcases h.2 with ⟨rfl, _⟩ | ⟨g, cap, cur, rfl, hg, _⟩
  · simp [Value.ownBlock]
  · intro e
    have e' : k = g := by simpa [Value.ownBlock] using e
    omega
theorem OT.slice {w : World} {B : Nat} {v : Value} {T : List ByteArray} (h : OT w B v T) : ∃ a c, v = .slice a T.length c ∧ TIn w a T := by
  have h' := h
  rcases h.2 with ⟨rfl, hn⟩ | ⟨g, cap, cur, rfl, _, hh, _⟩
  · refine ⟨none, 0, by rw [hn], ?_⟩
    have : T = [] := List.length_eq_zero_iff.1 hn
    rw [this]; exact TIn.nil _ _
  · refine ⟨_, cap, rfl, ?_⟩
    intro i t ht
    have hc := World.ownsRow.cells (show w.ownsRow B _ 1 _ _ _ from h') (g := g) rfl i (.string t) (by simp [ht])
    rw [add_zero_addr] at hc
    exact ⟨g, 0, rfl, lt_of_block hh, by simpa using hc⟩
/-- What a round keeps. -/
structure LR (w wr : World) (S : List UInt8) (l : List Nat) (V : Value) (T : List ByteArray) (t : ByteArray) (ok : Bool) : Prop where
  rd : RD wr w.heap.size t ok
  h0 : wr.heap[w.heap.size]? = some (.cells zero13 28 (0, 0))
  hm : wr.heap[w.heap.size + 3]? = some (.cells (mc l (.int .i64 (l.getD 7 0 : Nat)) V) 28 (0, 0))
  ht : wr.heap[w.heap.size + 5]? = some (.cells #[.int .i64 (l.getD 11 0 : Nat)] 3 (0, 0))
  own : OT wr (w.heap.size + 7) V T
  bel : Below w.heap.size w wr
  big : w.heap.size + 7 ≤ wr.heap.size
  sz : t.size ≤ S.length
  tsz : ∀ y ∈ T, y.size ≤ S.length
  le : T.length ≤ l.getD 11 0
  fin : (ok = true ∧ ∃ R1 R, t = Go.Proofs.Ytalpbnkmppdgdaa.mk R ∧ rdNums 12 S = some (l, R1) ∧ rdLog T.length R1 = some (T, R)) ∨ (ok = false ∧ rdRaw S = none)
theorem raw_nums {S : List UInt8} (h : rdNums 12 S = none) : rdRaw S = none := by unfold rdRaw; rw [h]
theorem raw_many {S : List UInt8} {l : List Nat} {t : ByteArray} {ok : Bool} (h : NumsE S l t ok) (hl : l.length = 12) (hb : ¬ l.getD 11 0 ≤ 4096) : rdRaw S = none := by
  rcases h with ⟨_, R, _, hr⟩ | ⟨_, hr⟩
  · rw [hl] at hr
    unfold rdRaw
    rw [hr]
    simp only
    rw [if_neg hb]
  · exact raw_nums hr
theorem raw_log {S R1 : List UInt8} {l : List Nat} (h : rdNums 12 S = some (l, R1)) (hg : rdLog (l.getD 11 0) R1 = none) : rdRaw S = none := by
  unfold rdRaw
  rw [h]
  simp only [hg]
  split <;> rfl
theorem raw_body {S R1 R2 : List UInt8} {l : List Nat} {T : List ByteArray} (h : rdNums 12 S = some (l, R1)) (hb : l.getD 11 0 ≤ 4096) (hg : rdLog (l.getD 11 0) R1 = some (T, R2)) : rdRaw S = match rdBody R2 with
    | none => none
    | some B => some (msgOf l T B) := by
  unfold rdRaw
  rw [h]
  simp only [hg, if_pos hb]
  cases rdBody R2 <;> rfl
theorem lr_start {w wr : World} {S : List UInt8} {l : List Nat} {t : ByteArray} {ok : Bool} (h : NR w wr S l t ok) (hl : l.length = 12) :
    LR w (wr.setCell ⟨w.heap.size + 3, 7, none⟩ (.int .i64 (l.getD 7 0 : Nat))) S l (.slice none 0 0) [] t ok := by
  have hlt := lt_of_block h.rm.hp
  refine ⟨h.rd.other (by omega) (by omega) _, (Below.heap_setCell _ _ _ _ (by simp)).trans h.rm.h0, (block_setCell h.rm.hm).trans (by simp [mc]), (Below.heap_setCell _ _ _ _ (by simp)).trans h.rm.ht, OT.nil _ _, ?_, ?_, h.sz, (fun y hy => by cases hy), Nat.zero_le _, ?_⟩
  · exact h.bel.setCell (by show w.heap.size ≤ w.heap.size + 3; omega) _
  · simp [World.setCell]; omega
  · rcases h.nums with ⟨h1, R, h2, h3⟩ | ⟨h1, h2⟩
    · rw [hl] at h3
      exact .inl ⟨h1, R, R, h2, h3, rfl⟩
    · exact .inr ⟨h1, raw_nums h2⟩
theorem LR.cells {w wr : World} {S : List UInt8} {l : List Nat} {V : Value} {T : List ByteArray} {t : ByteArray} {ok : Bool} (h : LR w wr S l V T t ok) :
    wr.cell? ⟨w.heap.size + 1, 0, none⟩ = some (.string t) ∧ wr.cell? ⟨w.heap.size + 2, 0, none⟩ = some (.bool ok) ∧ wr.cell? ⟨w.heap.size + 3, 11, none⟩ = some V ∧ wr.cell? ⟨w.heap.size + 5, 0, none⟩ = some (.int .i64 (l.getD 11 0 : Nat)) ∧ wr.frozen? ⟨w.heap.size + 3, 11, none⟩ = false :=
  ⟨h.rd.cells.1, h.rd.cells.2.1, by simp [World.cell?, h.hm, mc], by simp [World.cell?, h.ht], by simp [World.frozen?, h.hm]⟩
theorem rdTxt_good {R : List UInt8} {x : Nat} {t1 p t2 : ByteArray} (h1 : NumN (mk R) x t1 true) (h2 : TextE t1 x p t2 true) : ∃ u R', rdTxt R = some (u, R') ∧ p = mk u ∧ t2 = mk R' := by
  rcases h1 with ⟨n, hv, rfl, _⟩ | ⟨_, _, _, hf⟩
  · rw [extract_drop] at h2
    rcases h2 with ⟨hx, rfl, rfl, _⟩ | ⟨_, _, _, hf⟩
    · rw [mk_size] at hx
      refine ⟨(R.drop n).take x, (R.drop n).drop x, ?_, extract_take _ _, extract_drop _ _⟩
      unfold rdTxt
      simp only [hv, if_pos hx]
    · cases hf
  · cases hf
theorem rdTxt_bad {R : List UInt8} {x : Nat} {t1 p t2 : ByteArray} {g1 g2 : Bool} (h1 : NumN (mk R) x t1 g1) (h2 : TextE t1 x p t2 g2) (hg : (g1 && g2) = false) : rdTxt R = none := by
  unfold rdTxt
  rcases h1 with ⟨n, hv, rfl, rfl⟩ | ⟨hv, _, _, rfl⟩
  · rw [extract_drop] at h2
    rcases h2 with ⟨hx, rfl, rfl, rfl⟩ | ⟨hx, rfl, rfl, rfl⟩
    · cases hg
    · rw [mk_size] at hx
      simp only [hv]
      rw [if_neg (by omega)]
  · simp only [hv]
/-- A round more. -/
theorem LR.more {w wr w1 w2 w5 : World} {S : List UInt8} {l : List Nat} {V : Value} {T : List ByteArray} {t t1 t2 p : ByteArray} {x : Nat} {g1 g2 : Bool} {o : Obj} {g cap : Nat} (h : LR w wr S l V T t true)
    (hlt : T.length < l.getD 11 0) (h1 : NumN t x t1 g1) (h2 : TextE t1 x p t2 g2) (hf1 : NF w.heap.size wr w1) (hf2 : NF w.heap.size w1 w2) (hrd : RD w2 w.heap.size t2 (g1 && g2))
    (hown : w5.ownsRow (w.heap.size + 7) 9 1 (.slice (some ⟨g, 0, none⟩) (T.length + 1) cap) (T.length + 1) (T.map Value.string ++ [.string p])) (hg : (w2.alloc o).grownBy w5 V.ownBlock) :
    LR w (w5.setCell ⟨w.heap.size + 3, 11, none⟩ (.slice (some ⟨g, 0, none⟩) (T.length + 1) cap)) S l (.slice (some ⟨g, 0, none⟩) (T.length + 1) cap) (T ++ [p]) t2 (g1 && g2) := by
  have hbig := h.big
  have hs1 := hf1.size
  have hs2 := hf2.size
  have hs5 := hg.size
  have hsa : (w2.alloc o).heap.size = w2.heap.size + 1 := by simp
  have kb : ∀ k, k < w.heap.size + 7 → k ≠ w.heap.size + 1 → k ≠ w.heap.size + 2 → w5.heap[k]? = wr.heap[k]? := fun k hk k1 k2 => by
    rw [hg.block k (by omega) (h.own.far hk)]
    rw [((Below.refl w2.heap.size w2).alloc (Nat.le_refl _) o).block k (by omega), hf2.block k (by omega) k1 k2, hf1.block k (by omega) k1 k2]
  have kr : ∀ k, k < w.heap.size + 7 → w5.heap[k]? = w2.heap[k]? := fun k hk => by
    rw [hg.block k (by omega) (h.own.far hk)]
    rw [((Below.refl w2.heap.size w2).alloc (Nat.le_refl _) o).block k (by omega)]
  have l1 := h1.le
  have l2 := h2.le
  have hsz := h.sz
  refine ⟨?_, ?_, ?_, ?_, ?_, ?_, ?_, by omega, ?_, by rw [List.length_append, List.length_cons, List.length_nil]; omega, ?_⟩
  · have hR : RD w5 w.heap.size t2 (g1 && g2) := ⟨(kr _ (by omega)).trans hrd.hr, (kr _ (by omega)).trans hrd.ho⟩
    exact hR.other (by omega) (by omega) _
  · exact (Below.heap_setCell _ _ _ _ (by simp)).trans ((kb _ (by omega) (by omega) (by omega)).trans h.h0)
  · exact (block_setCell ((kb _ (by omega) (by omega) (by omega)).trans h.hm)).trans (by simp [mc])
  · exact (Below.heap_setCell _ _ _ _ (by simp)).trans ((kb _ (by omega) (by omega) (by omega)).trans h.ht)
  · have ho : OT w5 (w.heap.size + 7) (.slice (some ⟨g, 0, none⟩) (T.length + 1) cap) (T ++ [p]) := by
      show w5.ownsRow _ _ _ _ (T ++ [p]).length _
      rw [List.length_append, List.map_append]
      exact hown
    exact ho.keep (fun k hk _ => Below.heap_setCell _ _ _ _ (by simp; omega))
  · have hb5 : Below w.heap.size w w5 := by
      refine ⟨hg.os.trans (hf2.os.trans (hf1.os.trans h.bel.os)), hg.tape.trans (hf2.tape.trans (hf1.tape.trans h.bel.tape)), hg.output.trans (hf2.output.trans (hf1.output.trans h.bel.output)), by omega, fun k hk => ?_⟩
      rw [kb k (by omega) (by omega) (by omega)]
      exact h.bel.block k hk
    exact hb5.setCell (by show w.heap.size ≤ w.heap.size + 3; omega) _
  · simp [World.setCell]; omega
  · intro y hy
    rcases List.mem_append.1 hy with hy | hy
    · exact h.tsz y hy
    · simp at hy; subst hy; omega
  · rcases h.fin with ⟨_, R1, R, rfl, hn, hlg⟩ | ⟨hf, _⟩
    · cases hgg : (g1 && g2) with
      | true =>
        rw [Bool.and_eq_true] at hgg
        obtain ⟨rfl, rfl⟩ := hgg
        obtain ⟨u, R', hu, rfl, rfl⟩ := rdTxt_good h1 h2
        refine .inl ⟨rfl, R1, R', rfl, hn, ?_⟩
        rw [List.length_append]
        exact rdLog_snoc hlg hu
      | false =>
        refine .inr ⟨rfl, raw_log hn ?_⟩
        have := rdLog_stop (k := l.getD 11 0 - T.length - 1) hlg (rdTxt_bad h1 h2 hgg)
        rw [show T.length + (l.getD 11 0 - T.length - 1 + 1) = l.getD 11 0 by omega] at this
        exact this
    · cases hf
theorem results_cell_tmp {fn : Func} {p q : Tmp} {ty : TypeId} (h : fn.results = #[.cell p ty, .tmp q]) (tmps : Array Value) (P : Program) (w : World) :
    (results fn tmps).run P w = ((asAddr (tmps.getD p undef)).run P w).andThen fun a w₁ => ((loadVar ty a).run P w₁).andThen fun v w₂ => .ok (.tuple #[v, tmps.getD q undef]) w₂ := by
  simp only [results, h]
  simp [Sem.run_bind, Result.andThen]
theorem frozen0 {w : World} {b : Nat} {t : TypeId} {cs : Array Value} (h : w.heap[b]? = some (.cells cs t (0, 0))) (i : Nat) : w.frozen? ⟨b, i, none⟩ = false := by simp [World.frozen?, h]
theorem bl_set {B i : Nat} {w w' : World} {u : Value} : Below B w (w'.setCell ⟨B, i, none⟩ u) ↔ Below B w w' :=
  ⟨fun h => ⟨h.os, h.tape, h.output, by have := h.size; simpa [World.setCell] using this, fun k hk => by rw [← h.block k hk]; exact (Below.heap_setCell _ _ _ _ (by show k ≠ B; omega)).symm⟩, fun h => h.setCell (Nat.le_refl _) _⟩
/-- What lay there from a block on lies there as it did. -/
structure Kq (B : Nat) (w w' : World) : Prop where
  size : w.heap.size ≤ w'.heap.size
  block : ∀ k, B ≤ k → k < w.heap.size → w'.heap[k]? = w.heap[k]?
theorem Kq.refl (B : Nat) (w : World) : Kq B w w := ⟨Nat.le_refl _, fun _ _ _ => rfl⟩
theorem Kq.trans {B C : Nat} {u v w : World} (h : Kq B u v) (k : Kq C v w) (hC : C ≤ B) : Kq B u w :=
  ⟨Nat.le_trans h.size k.size, fun i h1 h2 => (k.block i (by omega) (Nat.lt_of_lt_of_le h2 h.size)).trans (h.block i h1 h2)⟩
theorem Kq.of_below {B : Nat} {w w' : World} (h : Below w.heap.size w w') : Kq B w w' := ⟨h.size, fun k _ hk => h.block k hk⟩
theorem kq_set {B b i : Nat} {w w' : World} {u : Value} (h : b < B) : Kq B w (w'.setCell ⟨b, i, none⟩ u) ↔ Kq B w w' :=
  ⟨fun g => ⟨by have := g.size; simpa [World.setCell] using this, fun k hk hk2 => (Below.heap_setCell _ _ _ _ (by show k ≠ b; omega)).symm.trans (g.block k hk hk2)⟩, fun g => ⟨by have := g.size; simpa [World.setCell] using this, fun k hk hk2 => (Below.heap_setCell _ _ _ _ (by show k ≠ b; omega)).trans (g.block k hk hk2)⟩⟩
theorem OT.kq {w w' : World} {B : Nat} {v : Value} {T : List ByteArray} (h : OT w B v T) (hh : Kq B w w') : OT w' B v T := h.keep hh.block
theorem Own.kq {w w' : World} {B : Nat} {v : Value} {L : List Rec} (h : Own w B v L) (hh : Kq B w w') : Own w' B v L := by
  obtain ⟨h1, h2⟩ := h
  refine ⟨h1, ?_⟩
  rcases h2 with h2 | ⟨g, cap, cur, h3, h4, h5, r⟩
  · exact .inl h2
  · exact .inr ⟨g, cap, cur, h3, h4, (hh.block g h4 (lt_of_block h5)).trans h5, r⟩
/-- How many texts are still to come. -/
def lgM (B tx : Nat) (wr : World) : Nat := match wr.cell? ⟨B + 3, 11, none⟩ with
  | some (.slice _ n _) => tx - n
  | _ => 0
theorem lgM_eq {B tx n c : Nat} {a : Option Addr} {wr : World} (h : wr.cell? ⟨B + 3, 11, none⟩ = some (.slice a n c)) : lgM B tx wr = tx - n := by unfold lgM; rw [h]
/-- What read answers. -/
def ReadE (S : List UInt8) (w : World) (e : Ending) (w' : World) : Prop :=
  (∃ m s, rdRaw S = some m ∧ e = .returned (.tuple #[Msg.v m s, .bool true]) ∧ (∀ W, Kq w.heap.size w' W → MIn W m s) ∧ Below w.heap.size w w') ∨ (rdRaw S = none ∧ (∃ m s, e = .returned (.tuple #[Msg.v m s, .bool false])) ∧ Below w.heap.size w w')
abbrev zeroM : Msg := ⟨0, 0, 0, 0, 0, 0, 0, 0, 0, 0, 0, [], []⟩
abbrev zeroS : Spot := ⟨none, 0, none, 0⟩
theorem MIn.zero (w : World) : MIn w zeroM zeroS := ⟨TIn.nil _ _, RIn.nil _ _, (fun t ht => by cases ht), (fun t ht => by cases ht), by decide, by decide⟩
theorem LR.mcells {w wr : World} {S : List UInt8} {l : List Nat} {V : Value} {T : List ByteArray} {t : ByteArray} {ok : Bool} (h : LR w wr S l V T t ok) :
    ∃ n0 n1 n2 n3 n4 n5 n6 n7 n8 n9 n10 : Nat, wr.heap[w.heap.size + 3]? = some (.cells #[.int .i64 n0, .int .i64 n1, .int .i64 n2, .int .i64 n3, .int .i64 n4, .int .i64 n5, .int .i64 n6, .int .i64 n7, .int .i64 n8, .int .i64 n9, .int .i64 n10, V, .slice none 0 0] 28 (0, 0)) ∧ ∀ T B, msgOf l T B = ⟨n0, n1, n2, n3, n4, n5, n6, n7, n8, n9, n10, T, B⟩ :=
  ⟨l.getD 0 0, l.getD 1 0, l.getD 2 0, l.getD 3 0, l.getD 4 0, l.getD 5 0, l.getD 6 0, l.getD 7 0, l.getD 8 0, l.getD 9 0, l.getD 10 0, h.hm, fun T B => rfl⟩
/-- What lies from a block on is as it was. -/
def Hi (C : Nat) (w w' : World) : Prop := ∀ k, C ≤ k → w'.heap[k]? = w.heap[k]?
theorem Hi.refl (C : Nat) (w : World) : Hi C w w := fun _ _ => rfl
theorem hi_set {C b i : Nat} {w w' : World} {u : Value} (h : b < C) : Hi C w (w'.setCell ⟨b, i, none⟩ u) ↔ Hi C w w' :=
  ⟨fun g k hk => (Below.heap_setCell _ _ _ _ (by show k ≠ b; omega)).symm.trans (g k hk), fun g k hk => (Below.heap_setCell _ _ _ _ (by show k ≠ b; omega)).trans (g k hk)⟩
theorem OT.hi {w w' : World} {B : Nat} {v : Value} {T : List ByteArray} (h : OT w B v T) (hh : Hi B w w') : OT w' B v T := h.keep (fun k hk _ => hh k hk)
theorem Own.hi {w w' : World} {B : Nat} {v : Value} {L : List Rec} (h : Own w B v L) (hh : Hi B w w') : Own w' B v L := by
  obtain ⟨h1, h2⟩ := h
  refine ⟨h1, ?_⟩
  rcases h2 with h2 | ⟨g, cap, cur, h3, h4, h5, r⟩
  · exact .inl h2
  · exact .inr ⟨g, cap, cur, h3, h4, (hh g h4).trans h5, r⟩
theorem ofL_all {n : Nat} {R : List UInt8} {L : List Rec} (h : ofL 0 n R = some L) : L.length = n ∧ Sized L := by
  unfold ofL at h
  cases hr : rdN 0 n R with
  | none => rw [hr] at h; cases h
  | some p =>
    obtain ⟨M, R2⟩ := p
    rw [hr] at h
    simp only at h
    by_cases hc : (comes M 0 && R2.isEmpty) = true
    · rw [if_pos hc] at h
      cases h
      rw [Bool.and_eq_true] at hc
      refine ⟨rdN_len hr, fun r hrm => ?_⟩
      have := (mayB_iff r).1 (comes_mem _ 0 hc.1 r hrm)
      omega
    · rw [if_neg hc] at h; cases h
theorem body_none {R : List UInt8} (h : varD (mk R) = none) : rdBody R = none := by unfold rdBody; rw [h]
theorem body_many {R : List UInt8} {x n : Nat} (h : varD (mk R) = some (x, n)) (hx : ¬ x ≤ 256) : rdBody R = none := by unfold rdBody; rw [h]; simp only; rw [if_neg hx]
theorem body_some {R : List UInt8} {x n : Nat} (h : varD (mk R) = some (x, n)) (hx : x ≤ 256) : rdBody R = ofL 0 x (R.drop n) := by unfold rdBody; rw [h]; simp only; rw [if_pos hx]
theorem LR.h0nf {w wr w1 : World} {S : List UInt8} {l : List Nat} {V : Value} {T : List ByteArray} {t : ByteArray} {ok : Bool} (h : LR w wr S l V T t ok) (hf : NF w.heap.size wr w1) : w1.heap[w.heap.size]? = some (.cells zero13 28 (0, 0)) :=
  (hf.block _ (lt_of_block h.h0) (by omega) (by omega)).trans h.h0
theorem news1 (W : World) (a : Value) (t : TypeId) : ∀ j u, [a][j]? = some u → (W.alloc (.cells #[a] t)).cell? ((⟨W.heap.size, 0, none⟩ : Addr).add j) = some u := by
  intro j u h
  match j, h with
  | 0, h => simp at h; subst h; simp [Addr.add]
theorem one1 (p : ByteArray) : ∀ u ∈ [Value.string p], u.oneCell' = true := by
  intro u hu
  simp only [List.mem_cons, List.not_mem_nil, or_false] at hu
  subst hu
  rfl
theorem LR.at11 {w wr w' : World} {S : List UInt8} {l : List Nat} {V : Value} {T : List ByteArray} {t : ByteArray} {ok : Bool} (h : LR w wr S l V T t ok) (hk : w'.heap[w.heap.size + 3]? = wr.heap[w.heap.size + 3]?) : w'.cell? ⟨w.heap.size + 3, 11, none⟩ = some V ∧ w'.frozen? ⟨w.heap.size + 3, 11, none⟩ = false := by
  have hm := hk.trans h.hm
  exact ⟨by simp [World.cell?, hm, mc], by simp [World.frozen?, hm]⟩
theorem LR.nf3 {w wr w1 : World} {S : List UInt8} {l : List Nat} {V : Value} {T : List ByteArray} {t : ByteArray} {ok : Bool} (h : LR w wr S l V T t ok) (hf : NF w.heap.size wr w1) : w1.heap[w.heap.size + 3]? = wr.heap[w.heap.size + 3]? :=
  hf.block _ (lt_of_block h.hm) (by omega) (by omega)
theorem LR.al3 {w wr w1 : World} {S : List UInt8} {l : List Nat} {V : Value} {T : List ByteArray} {t : ByteArray} {ok : Bool} (h : LR w wr S l V T t ok) (hf : NF w.heap.size wr w1) (o : Obj) : (w1.alloc o).heap[w.heap.size + 3]? = wr.heap[w.heap.size + 3]? := by
  have hlt := lt_of_block h.hm
  have hs := hf.size
  rw [((Below.refl w1.heap.size w1).alloc (Nat.le_refl _) o).block _ (by omega)]
  exact h.nf3 hf
theorem LR.gr3 {w wr w1 w5 : World} {S : List UInt8} {l : List Nat} {V : Value} {T : List ByteArray} {t : ByteArray} {ok : Bool} (h : LR w wr S l V T t ok) (hf : NF w.heap.size wr w1) (o : Obj) (hg : (w1.alloc o).grownBy w5 V.ownBlock) : w5.heap[w.heap.size + 3]? = wr.heap[w.heap.size + 3]? := by
  have hlt := lt_of_block h.hm
  have hs := hf.size
  rw [hg.block _ (by simp; omega) (h.own.far (by omega))]
  exact h.al3 hf o
theorem LR.ownA {w wr w1 : World} {S : List UInt8} {l : List Nat} {V : Value} {T : List ByteArray} {t : ByteArray} {ok : Bool} (h : LR w wr S l V T t ok) (hf : NF w.heap.size wr w1) (o : Obj) : (w1.alloc o).ownsRow (w.heap.size + 7) 9 1 V T.length (T.map Value.string) ∧ w.heap.size + 7 ≤ (w1.alloc o).heap.size := by
  have hs := hf.size
  have hb := h.big
  refine ⟨?_, by simp; omega⟩
  have : OT (w1.alloc o) (w.heap.size + 7) V T := h.own.keep (fun k hk hk2 => by
    rw [((Below.refl w1.heap.size w1).alloc (Nat.le_refl _) o).block k (by omega)]
    exact hf.block k hk2 (by omega) (by omega))
  exact this
end Go.Proofs.Ytalpbnkmppdgdaa
namespace Go.Proofs.Ytalpbnkmppdgdaa
open Go.RowKit
set_option linter.unusedVariables false

/-- Are they the same? -/
noncomputable def eqB {α : Type} (x y : α) : Bool := @decide (x = y) (Classical.propDecidable (x = y))
theorem eqB_true {α : Type} {x y : α} (h : x = y) : eqB x y = true := by unfold eqB; exact @decide_eq_true (x = y) (Classical.propDecidable (x = y)) h
theorem eqB_false {α : Type} {x y : α} (h : ¬ x = y) : eqB x y = false := by unfold eqB; exact @decide_eq_false (x = y) (Classical.propDecidable (x = y)) h
theorem get_ne {α : Type} {L M : List α} {j : Nat} {x y : α} (hx : L[j]? = some x) (hy : M[j]? = some y) (h : ¬ x = y) : ¬ L = M := by
  rintro rfl
  rw [hx] at hy
  cases hy
  exact h rfl
theorem eq_get {α : Type} {L M : List α} {n : Nat} (h1 : L.length = n) (h2 : M.length = n) (h : ∀ j, j < n → L[j]? = M[j]?) : L = M := by
  apply List.ext_getElem?
  intro j
  rcases Nat.lt_or_ge j n with hj | hj
  · exact h j hj
  · rw [List.getElem?_eq_none (by omega), List.getElem?_eq_none (by omega)]
set_option maxHeartbeats 1000000 in
theorem same9_ok (a b : Option Addr) (ca cb : Nat) (L M : List Rec) (w : World) (ha : RIn w a L) (hb : RIn w b M) (hlen : L.length ≤ 9223372036854775807) (hlenM : M.length ≤ 9223372036854775807) :
    Calls Try.prog 32 #[.slice a L.length ca, .slice b M.length cb] w fun e w' => e = .returned (.bool (eqB L M)) ∧ Below w.heap.size w w' := by
  have HA : Hid (RIn w a L) := ha
  have HB : Hid (RIn w b M) := hb
  obtain ⟨rv, hrv⟩ : ∃ rv, eqB L M = rv := ⟨_, rfl⟩
  have HRV : Hid (eqB L M = rv) := hrv
  rw [hrv]
  obtain ⟨len, hl⟩ : ∃ len, L.length = len := ⟨_, rfl⟩
  obtain ⟨len2, hl2⟩ : ∃ len, M.length = len := ⟨_, rfl⟩
  rw [hl] at hlen ⊢
  rw [hl2] at hlenM ⊢
  have HL : Hid (L.length = len) := hl
  have HL2 : Hid (M.length = len2) := hl2
  have hneq := run_neqR
  have hgd : Try.prog.eqGuardType Try.prog.depth 56 = false := by kernel_rfl
  clear ha hb hl hl2 hrv
  by_cases hlm : len = len2
  · subst hlm
    go_enter Try.func32, Try.ntmps32
    go_wp2
    go_loopw [5] (fun i wr => ∃ (j : Nat), i = .int .i64 (j : Nat) ∧ j ≤ len ∧ (∀ k, k < j → L[k]? = M[k]?) ∧ Below w.heap.size w wr) (fun i _ => len - (intOf i).toNat)
    case atStart => exact ⟨0, rfl, Nat.zero_le _, (fun k hk => by omega), Below.refl _ _⟩
    case round =>
      obtain ⟨j, rfl, hj, hall, hbel⟩ := hrel
      have HBE : Hid (Below w.heap.size w wr) := hbel
      have HALL : Hid (∀ k, k < j → L[k]? = M[k]?) := hall
      clear hall
      by_cases hlt : j < len
      · have hlti : (j : Int) < (len : Int) := by omega
        obtain ⟨r, hr⟩ : ∃ r, L[j]? = some r := ⟨L[j]'(by rw [HL.out]; exact hlt), List.getElem?_eq_getElem _⟩
        obtain ⟨q, hq⟩ : ∃ r, M[j]? = some r := ⟨M[j]'(by rw [HL2.out]; exact hlt), List.getElem?_eq_getElem _⟩
        obtain ⟨ab, ao, rfl, _, c0, c1, c2, c3⟩ := (HA.out.below hbel (Nat.le_refl _)) _ _ hr
        obtain ⟨bb, bo, rfl, _, d0, d1, d2, d3⟩ := (HB.out.below hbel (Nat.le_refl _)) _ _ hq
        by_cases hrq : r = q
        · subst hrq
          have HN : Hid (∀ k, k < j + 1 → L[k]? = M[k]?) := fun k hk => by
            rcases Nat.lt_or_ge k j with h | h
            · exact HALL.out k h
            · obtain rfl : k = j := by omega
              rw [hr, hq]
          obtain ⟨off, key, val, gone⟩ := r
          simp only at c0 c1 c2 c3 d0 d1 d2 d3
          have he := eqR_self off key val gone
          clear hr hq hbel
          go_wp2_with fail
          go_region
          go_wp2
          go_roundw
          case rel => exact ⟨j + 1, by go_num, by omega, HN.out, HBE.out.drew⟩
          case measure => simp [intOf]; omega
        · have HV : Hid (rv = false) := by rw [← HRV.out]; exact eqB_false (get_ne hr hq hrq)
          have he : eqR r.off r.key r.val r.gone q.off q.key q.val q.gone = false := by
            cases hx : eqR r.off r.key r.val r.gone q.off q.key q.val q.gone with
            | false => rfl
            | true => exact absurd ((eqR_iff r q).1 hx) hrq
          obtain ⟨off, key, val, gone⟩ := r
          obtain ⟨off', key', val', gone'⟩ := q
          simp only at c0 c1 c2 c3 d0 d1 d2 d3 he
          clear hr hq hbel hrq
          go_wp2_with fail
          go_region
          go_wp2
          go_ret
          exact ⟨by rw [HV.out]; rfl, HBE.out.drew⟩
      · obtain rfl : j = len := by omega
        have HV : Hid (rv = true) := by rw [← HRV.out]; exact eqB_true (eq_get HL.out HL2.out HALL.out)
        clear hbel
        go_wp2
        go_ret
        exact ⟨by rw [HV.out]; rfl, HBE.out⟩
  · have hne : ((len : Int) != (len2 : Int)) = true := by simp; omega
    have HV : Hid (rv = false) := by
      rw [← HRV.out]
      refine eqB_false ?_
      rintro rfl
      exact hlm (HL.out.symm.trans HL2.out)
    go_enter Try.func32, Try.ntmps32
    go_wp2
    go_ret
    exact ⟨by rw [HV.out]; rfl, Below.refl _ _⟩
/-- The row that numbers makes. -/
def NB (w : World) (b : Nat) (m : Msg) : Prop := w.heap[b]? = some (.cells (m.ns.map (Value.int .i64 ·)).toArray 3 (0, 0))
set_option maxHeartbeats 1000000 in
theorem rnumbers_ok (m : Msg) (s : Spot) (w : World) :
    Calls Try.prog 23 #[m.v s] w fun e w' => ∃ nb, e = .returned (.slice (some ⟨nb, 0, none⟩) 11 11) ∧ w.heap.size ≤ nb ∧ NB w' nb m ∧ Below w.heap.size w w' := by
  have HBA : Hid (Below w.heap.size w (w.alloc (.cells (m.cs s) 28))) := (Below.refl _ _).alloc (Nat.le_refl _) _
  have HMB : Hid (MB (w.alloc (.cells (m.cs s) 28)) w.heap.size m s) := heap_alloc_new _ _
  obtain ⟨mb, hmb⟩ : ∃ mb, w.heap.size = mb := ⟨_, rfl⟩
  rw [hmb] at HMB
  generalize hWA : (w.alloc (.cells (m.cs s) 28)) = wA at HMB HBA
  go_enter Try.func23, Try.ntmps23
  go_upto_region 1 with fail
  clear hWA
  obtain ⟨d0, d1, d2, d3, d4, d5, d6, d7, d8, d9, d10, d11, d12⟩ := HMB.out.cells
  go_wp2
  go_ret
  exact ⟨_, rfl, HBA.out.size, heap_alloc_new _ _, HBA.out.alloc HBA.out.size _⟩
end Go.Proofs.Ytalpbnkmppdgdaa
