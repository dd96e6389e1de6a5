/- The closure that reads the next record. -/
/- Records out of bytes, as a plain function; what next reads by it. -/
/- The records of bytes: Of. -/
/- What was written is read as it was; what lacks bytes is not read. -/
/- Two records held against one another; what must come, whatever the arguments are. -/
import Derived.Test.YtpjjenhimnkdcaaV06
import Derived.Deep.CutRange
import Derived.Deep.RegionHeldLaw
import Derived.Deep.AppendLies
import Derived.Laws.StructEq
namespace Go.Proofs.Ytpjjenhimnkdcaa
open Go.RowKit
set_option linter.unusedVariables false

def NumN (s : ByteArray) (x : Nat) (t : ByteArray) (g : Bool) : Prop :=
  (∃ n, varD s = some (x, n) ∧ t = s.extract n s.size ∧ g = true) ∨ (varD s = none ∧ x = 0 ∧ t.size ≤ s.size ∧ g = false)
theorem NumN.le {s : ByteArray} {x : Nat} {t : ByteArray} {g : Bool} (h : NumN s x t g) : x ≤ 9223372036854775807 ∧ t.size ≤ s.size := by
  rcases h with ⟨n, a, rfl, _⟩ | ⟨_, rfl, b, _⟩
  · exact ⟨(varD_le a).1, by rw [ByteArray.size_extract]; omega⟩
  · exact ⟨by omega, b⟩
theorem TextE.le {s : ByteArray} {n : Nat} {p t : ByteArray} {g : Bool} (h : TextE s n p t g) : t.size ≤ s.size ∧ p.size ≤ s.size := by
  rcases h with ⟨a, rfl, rfl, _⟩ | ⟨a, rfl, rfl, _⟩
  · exact ⟨by rw [ByteArray.size_extract]; omega, by rw [ByteArray.size_extract]; omega⟩
  · exact ⟨Nat.le_refl _, Nat.zero_le _⟩
/-- How the next record is read. -/
def NextE (base : Int) (s : ByteArray) (off : Int) (key val : ByteArray) (gone : Bool) (t : ByteArray) (ok : Bool) : Prop :=
  ∃ (x1 : Nat) (s1 : ByteArray) (g1 : Bool) (x2 : Nat) (s2 : ByteArray) (g2 : Bool) (s3 : ByteArray) (g3 : Bool) (x3 : Nat) (s4 : ByteArray) (g4 : Bool),
    NumN s x1 s1 g1 ∧ NumN s1 x2 s2 g2 ∧ TextE s2 x2 key s3 g3 ∧ NumN s3 x3 s4 g4 ∧ off = IntKind.i64.wrap (base + x1) ∧
    ((x3 = 0 ∧ gone = true ∧ val = ⟨#[]⟩ ∧ t = s4 ∧ ok = (g1 && g2 && g3 && g4)) ∨ (x3 ≠ 0 ∧ gone = false ∧ ∃ g5, TextE s4 (x3 - 1) val t g5 ∧ ok = (g1 && g2 && g3 && g4 && g5)))
/-- A block that holds a record, where a reading goes on. -/
theorem RB.nf {w w' : World} {B rb : Nat} {off : Int} {key val : ByteArray} {gone : Bool} (h : RB w rb off key val gone) (h1 : B + 4 < rb) (hf : NF B w w') : RB w' rb off key val gone :=
  (hf.block rb (lt_of_block h) (by omega) (by omega)).trans h
theorem RB.frozen {w : World} {rb : Nat} {off : Int} {key val : ByteArray} {gone : Bool} (h : RB w rb off key val gone) (i : Nat) : w.frozen? ⟨rb, i, none⟩ = false := by
  unfold RB at h
  simp [World.frozen?, h]
theorem RB.set0 {w : World} {rb : Nat} {off : Int} {key val : ByteArray} {gone : Bool} (h : RB w rb off key val gone) (x : Int) : RB (w.setCell ⟨rb, 0, none⟩ (.int .i64 x)) rb x key val gone :=
  (block_setCell h).trans (by simp)
theorem RB.set1 {w : World} {rb : Nat} {off : Int} {key val : ByteArray} {gone : Bool} (h : RB w rb off key val gone) (x : ByteArray) : RB (w.setCell ⟨rb, 1, none⟩ (.string x)) rb off x val gone :=
  (block_setCell h).trans (by simp)
theorem RB.set2 {w : World} {rb : Nat} {off : Int} {key val : ByteArray} {gone : Bool} (h : RB w rb off key val gone) (x : ByteArray) : RB (w.setCell ⟨rb, 2, none⟩ (.string x)) rb off key x gone :=
  (block_setCell h).trans (by simp)
theorem RB.set3 {w : World} {rb : Nat} {off : Int} {key val : ByteArray} {gone : Bool} (h : RB w rb off key val gone) (x : Bool) : RB (w.setCell ⟨rb, 3, none⟩ (.bool x)) rb off key val x :=
  (block_setCell h).trans (by simp)
/-- From a world on, all but what is left, whether all went well and blocks from C on is as it was. -/
structure NG (B C : Nat) (w w' : World) : Prop where
  os : w'.os = w.os
  tape : w'.tape = w.tape
  output : w'.output = w.output
  size : w.heap.size ≤ w'.heap.size
  block : ∀ k, k < C → k ≠ B + 1 → k ≠ B + 2 → w'.heap[k]? = w.heap[k]?
theorem NG.nf {B C : Nat} {u v w : World} (h : NG B C u v) (k : NF B v w) (hC : C ≤ v.heap.size) : NG B C u w :=
  ⟨k.os.trans h.os, k.tape.trans h.tape, k.output.trans h.output, Nat.le_trans h.size k.size, fun i hl h1 h2 => (k.block i (by omega) h1 h2).trans (h.block i hl h1 h2)⟩
theorem NG.set {B C : Nat} {u v : World} (h : NG B C u v) {rb i : Nat} (hr : C ≤ rb) (x : Value) : NG B C u (v.setCell ⟨rb, i, none⟩ x) :=
  ⟨h.os, h.tape, h.output, by simpa [World.setCell] using h.size, fun k hl h1 h2 => (Below.heap_setCell _ _ _ _ (by show k ≠ rb; omega)).trans (h.block k hl h1 h2)⟩
theorem NG.drew {B C : Nat} {u v : World} (h : NG B C u v) : NG B C u v.drew := ⟨h.os, h.tape, h.output, h.size, h.block⟩
end Go.Proofs.Ytpjjenhimnkdcaa
namespace Go.Proofs.Ytpjjenhimnkdcaa
open Go.RowKit
set_option linter.unusedVariables false

/-- The next record of bytes, and what is left. -/
noncomputable def rdRec (base : Int) (R : List UInt8) : Option (Rec × List UInt8) :=
  match varD (mk R) with
  | none => none
  | some (x1, n1) => match varD (mk (R.drop n1)) with
    | none => none
    | some (x2, n2) =>
      if x2 ≤ ((R.drop n1).drop n2).length then
        match varD (mk (((R.drop n1).drop n2).drop x2)) with
        | none => none
        | some (x3, n3) =>
          if x3 = 0 then some (⟨IntKind.i64.wrap (base + x1), mk (((R.drop n1).drop n2).take x2), ⟨#[]⟩, true⟩, (((R.drop n1).drop n2).drop x2).drop n3)
          else if x3 - 1 ≤ ((((R.drop n1).drop n2).drop x2).drop n3).length then
            some (⟨IntKind.i64.wrap (base + x1), mk (((R.drop n1).drop n2).take x2), mk (((((R.drop n1).drop n2).drop x2).drop n3).take (x3 - 1)), false⟩, ((((R.drop n1).drop n2).drop x2).drop n3).drop (x3 - 1))
          else none
      else none
theorem mk_data (s : ByteArray) : mk s.data.toList = s := by apply ByteArray.ext; simp [mk]
theorem mk_inj {a b : List UInt8} (h : mk a = mk b) : a = b := by rw [← mk_toList a, ← mk_toList b, h]
theorem extract_drop (R : List UInt8) (n : Nat) : (mk R).extract n (mk R).size = mk (R.drop n) := by
  apply ByteArray.ext
  rw [ByteArray.data_extract, mk_size]
  show R.toArray.extract n R.length = (R.drop n).toArray
  simp
  exact List.take_of_length_le (by simp)
theorem extract_take (R : List UInt8) (n : Nat) : (mk R).extract 0 n = mk (R.take n) := by
  apply ByteArray.ext
  rw [ByteArray.data_extract]
  show R.toArray.extract 0 n = (R.take n).toArray
  simp
/-- What next reads is what rdRec says. -/
theorem next_is (base : Int) (R : List UInt8) (off : Int) (key val : ByteArray) (gone : Bool) (t : ByteArray) (ok : Bool) (h : NextE base (mk R) off key val gone t ok) :
    (∃ R', rdRec base R = some (⟨off, key, val, gone⟩, R') ∧ t = mk R' ∧ ok = true) ∨ (rdRec base R = none ∧ ok = false) := by
  obtain ⟨x1, s1, g1, x2, s2, g2, s3, g3, x3, s4, g4, h1, h2, h3, h4, rfl, h5⟩ := h
  unfold rdRec
  have hbad : ∀ g : Bool, g = false → (g1 && g2 && g3 && g4) = false ∨ True := fun _ _ => .inr trivial
  rcases h1 with ⟨n1, a1, rfl, rfl⟩ | ⟨a1, rfl, _, rfl⟩
  · rw [a1]
    rw [extract_drop] at h2
    rcases h2 with ⟨n2, a2, rfl, rfl⟩ | ⟨a2, rfl, _, rfl⟩
    · simp only [a2]
      rw [extract_drop] at h3
      rcases h3 with ⟨a3, rfl, rfl, rfl⟩ | ⟨a3, rfl, rfl, rfl⟩
      · rw [mk_size] at a3
        rw [extract_drop] at h4
        rw [if_pos a3]
        rcases h4 with ⟨n3, a4, rfl, rfl⟩ | ⟨a4, rfl, _, rfl⟩
        · simp only [a4]
          rw [extract_drop] at h5
          rcases h5 with ⟨rfl, rfl, rfl, rfl, rfl⟩ | ⟨hx, rfl, g5, h5, rfl⟩
          · left
            rw [if_pos rfl, extract_take]
            exact ⟨_, rfl, rfl, rfl⟩
          · rw [if_neg hx]
            rcases h5 with ⟨a5, rfl, rfl, rfl⟩ | ⟨a5, rfl, rfl, rfl⟩
            · rw [mk_size] at a5
              left
              rw [if_pos a5, extract_take, extract_take, extract_drop]
              exact ⟨_, rfl, rfl, rfl⟩
            · rw [mk_size] at a5
              right
              rw [if_neg (by omega)]
              exact ⟨rfl, rfl⟩
        · right
          simp only [a4]
          rcases h5 with ⟨_, rfl, rfl, rfl, rfl⟩ | ⟨hx, rfl, g5, h5, rfl⟩
          · exact ⟨by first | rfl | trivial, by simp⟩
          · exact absurd rfl hx
      · rw [mk_size] at a3
        right
        rw [if_neg (by omega)]
        rcases h5 with ⟨_, rfl, rfl, rfl, rfl⟩ | ⟨hx, rfl, g5, h5, rfl⟩
        · exact ⟨by first | rfl | trivial, by simp⟩
        · exact ⟨by first | rfl | trivial, by simp⟩
    · right
      simp only [a2]
      rcases h5 with ⟨_, rfl, rfl, rfl, rfl⟩ | ⟨hx, rfl, g5, h5, rfl⟩
      · exact ⟨by first | rfl | trivial, by simp⟩
      · exact ⟨by first | rfl | trivial, by simp⟩
  · right
    rw [a1]
    rcases h5 with ⟨_, rfl, rfl, rfl, rfl⟩ | ⟨hx, rfl, g5, h5, rfl⟩
    · exact ⟨by first | rfl | trivial, by simp⟩
    · exact ⟨by first | rfl | trivial, by simp⟩
/-- So many records of bytes, and what is left. -/
noncomputable def rdN (base : Int) : Nat → List UInt8 → Option (List Rec × List UInt8)
  | 0, R => some ([], R)
  | n + 1, R => match rdRec base R with
    | none => none
    | some (r, R') => match rdN base n R' with
      | none => none
      | some (L, R'') => some (r :: L, R'')
theorem rdN_add (base : Int) (i k : Nat) (R : List UInt8) : rdN base (i + k) R = match rdN base i R with
    | none => none
    | some (M, R') => match rdN base k R' with
      | none => none
      | some (L, R'') => some (M ++ L, R'') := by
  induction i generalizing R with
  | zero =>
    rw [Nat.zero_add]
    simp only [rdN]
    cases rdN base k R with
    | none => rfl
    | some p => rfl
  | succ i ih =>
    rw [show i + 1 + k = (i + k) + 1 by omega]
    simp only [rdN]
    cases rdRec base R with
    | none => rfl
    | some p =>
      obtain ⟨r, R'⟩ := p
      simp only [ih R']
      cases rdN base i R' with
      | none => rfl
      | some p =>
        obtain ⟨M, R2⟩ := p
        simp only
        cases rdN base k R2 with
        | none => rfl
        | some p => rfl
theorem rdN_len {base : Int} {n : Nat} {R R' : List UInt8} {L : List Rec} (h : rdN base n R = some (L, R')) : L.length = n := by
  induction n generalizing R L with
  | zero => simp only [rdN] at h; cases h; rfl
  | succ n ih =>
    simp only [rdN] at h
    cases hr : rdRec base R with
    | none => rw [hr] at h; cases h
    | some p =>
      obtain ⟨r, R1⟩ := p
      rw [hr] at h
      simp only at h
      cases hn : rdN base n R1 with
      | none => rw [hn] at h; cases h
      | some p =>
        obtain ⟨L1, R2⟩ := p
        rw [hn] at h
        cases h
        simp [ih hn]
/-- What Of answers: the records, or none. -/
noncomputable def ofL (base : Int) (n : Nat) (R : List UInt8) : Option (List Rec) := match rdN base n R with
  | none => none
  | some (L, R') => if comes L base && R'.isEmpty then some L else none
theorem ofL_more {base : Int} {i k : Nat} {R R' : List UInt8} {M : List Rec} (h : rdN base i R = some (M, R')) (hr : rdRec base R' = none) : ofL base (i + (k + 1)) R = none := by
  unfold ofL
  rw [rdN_add, h]
  simp only [rdN, hr]
theorem ofL_bad {base : Int} {i k : Nat} {R R' R2 : List UInt8} {M : List Rec} {r : Rec} (h : rdN base i R = some (M, R')) (hr : rdRec base R' = some (r, R2)) (hc : comes (M ++ [r]) base = false) : ofL base (i + (k + 1)) R = none := by
  unfold ofL
  rw [rdN_add, h]
  simp only [rdN, hr]
  cases hk : rdN base k R2 with
  | none => rfl
  | some p =>
    obtain ⟨L, R3⟩ := p
    simp only
    rw [show M ++ r :: L = (M ++ [r]) ++ L by simp, comes_append, hc]
    rfl
theorem rdN_snoc {base : Int} {i : Nat} {R R' R2 : List UInt8} {M : List Rec} {r : Rec} (h : rdN base i R = some (M, R')) (hr : rdRec base R' = some (r, R2)) : rdN base (i + 1) R = some (M ++ [r], R2) := by
  rw [rdN_add, h]
  simp only [rdN, hr]
theorem ofL_end {base : Int} {n : Nat} {R R' : List UInt8} {M : List Rec} (h : rdN base n R = some (M, R')) (hc : comes M base = true) : ofL base n R = if R'.isEmpty then some M else none := by
  unfold ofL
  rw [h]
  simp only [hc, Bool.true_and]
theorem comes_count (M : List Rec) (base : Int) (h : comes M base = true) : (M.length : Int) ≤ lowB M base - base ∧ (M ≠ [] → lowB M base ≤ 1099511627776) := by
  induction M generalizing base with
  | nil => exact ⟨by simp [lowB], fun h => absurd rfl h⟩
  | cons r M ih =>
    simp only [comes, Bool.and_eq_true, decide_eq_true_eq] at h
    have h1 := ih (r.off + 1) h.2
    have h2 := (mayB_iff r).1 h.1.1
    have h3 : r.off < 1099511627776 := by have := h2.1; unfold offB at this; simp at this; exact this.2
    refine ⟨by simp only [lowB, List.length_cons]; have := h1.1; push_cast; omega, fun _ => ?_⟩
    simp only [lowB]
    cases M with
    | nil => simp only [lowB]; omega
    | cons x M => exact h1.2 (by simp)
theorem comes_small (M : List Rec) (base : Int) (h : comes M base = true) (hb : 0 ≤ base) : M.length ≤ 1099511627776 := by
  have h1 := comes_count M base h
  cases M with
  | nil => simp
  | cons x M => have := h1.2 (by simp); have := h1.1; omega
end Go.Proofs.Ytpjjenhimnkdcaa
namespace Go.Proofs.Ytpjjenhimnkdcaa
open Go.RowKit
set_option linter.unusedVariables false

/-- The cells of records. -/
def rcs : List Rec → List Value
  | [] => []
  | r :: L => r.cs ++ rcs L
theorem rcs_append (L M : List Rec) : rcs (L ++ M) = rcs L ++ rcs M := by
  induction L with
  | nil => rfl
  | cons x L ih => simp [rcs, ih]
theorem rcs_length (L : List Rec) : (rcs L).length = L.length * 4 := by
  induction L with
  | nil => rfl
  | cons x L ih => simp only [rcs, List.length_append, ih, List.length_cons]; show 4 + _ = _; omega
theorem rcs_get (L : List Rec) (i : Nat) (r : Rec) (h : L[i]? = some r) (j : Nat) (hj : j < 4) : (rcs L)[i * 4 + j]? = r.cs[j]? := by
  induction L generalizing i with
  | nil => simp at h
  | cons x L ih =>
    cases i with
    | zero =>
      simp at h
      subst h
      rw [rcs, List.getElem?_append_left (by show 0 * 4 + j < 4; omega)]
      simp
    | succ i =>
      simp at h
      rw [rcs, List.getElem?_append_right (by show 4 ≤ _; omega), show (i + 1) * 4 + j - x.cs.length = i * 4 + j by show (i + 1) * 4 + j - 4 = _; omega]
      exact ih i h
theorem add_zero_addr (g j : Nat) : (⟨g, 0, none⟩ : Addr).add j = ⟨g, j, none⟩ := by
  unfold Addr.add; split
  · subst_vars; rfl
  · simp
theorem RIn.nil (w : World) (a : Option Addr) : RIn w a [] := fun i r h => by simp at h
theorem RIn.owned {w : World} {B g n cap : Nat} {L : List Rec} (h : w.ownsRow B 47 4 (.slice (some ⟨g, 0, none⟩) n cap) n (rcs L)) (hg : g < w.heap.size) : RIn w (some ⟨g, 0, none⟩) L := by
  intro i r hr
  have hc := h.cells (g := g) rfl
  refine ⟨g, 0, rfl, hg, ?_, ?_, ?_, ?_⟩
  · have := hc (i * 4 + 0) _ (rcs_get L i r hr 0 (by omega)); rw [add_zero_addr] at this; simpa using this
  · have := hc (i * 4 + 1) _ (rcs_get L i r hr 1 (by omega)); rw [add_zero_addr] at this; simpa using this
  · have := hc (i * 4 + 2) _ (rcs_get L i r hr 2 (by omega)); rw [add_zero_addr] at this; simpa using this
  · have := hc (i * 4 + 3) _ (rcs_get L i r hr 3 (by omega)); rw [add_zero_addr] at this; simpa using this
theorem recInfo : (Try.prog.info? 47).map (fun i => (i.zero, i.size, i.bytes)) = some (some (.agg #[.int .i64 0, .string ⟨#[]⟩, .string ⟨#[]⟩, .bool false]), 4, 48) := by kernel_rfl
theorem info_split {t : TypeId} {z : Option Value} {n m : Nat} (h : (Try.prog.info? t).map (fun i => (i.zero, i.size, i.bytes)) = some (z, n, m)) : ∃ i, Try.prog.info? t = some i ∧ i.zero = z ∧ i.size = n ∧ i.bytes = m := by
  cases e : Try.prog.info? t with
  | none => rw [e] at h; simp at h
  | some i => rw [e] at h; simp at h; exact ⟨i, rfl, h.1, h.2.1, h.2.2⟩
theorem owns_below {w w' : World} {B : Nat} {E : TypeId} {size n : Nat} {v : Value} {xs : List Value} (h : w.ownsRow B E size v n xs) (hb : Below w.heap.size w w') : w'.ownsRow B E size v n xs := by
  refine ⟨h.1, ?_⟩
  rcases h.2 with hn | ⟨g, cap, cur, hv, hg, hh, r⟩
  · exact .inl hn
  · exact .inr ⟨g, cap, cur, hv, hg, (hb.block g (lt_of_block hh)).trans hh, r⟩
/-- A slice of records of the call's own: its value. -/
def Own (w : World) (B : Nat) (v : Value) (L : List Rec) : Prop := w.ownsRow B 47 4 v L.length (rcs L)
theorem Own.nil (w : World) (B : Nat) : Own w B (.slice none 0 0) [] := World.ownsRow_nil _ _ _ _
theorem Own.below {w w' : World} {B : Nat} {v : Value} {L : List Rec} (h : Own w B v L) (hb : Below w.heap.size w w') : Own w' B v L := owns_below h hb
theorem below_grown {B : Nat} {w w' : World} {v : Value} {E : TypeId} {n size : Nat} {xs : List Value} (ho : w.ownsRow B E size v n xs) (hg : w.grownBy w' v.ownBlock) (hB : B ≤ w.heap.size) : Below B w w' :=
  ⟨hg.os, hg.tape, hg.output, hg.size, fun k hk => hg.block k (by omega) (fun e => by
    rcases ho.2 with ⟨rfl, _⟩ | ⟨g, cap, cur, rfl, hB', _⟩
    · simp [Value.ownBlock] at e
    · have e' : k = g := by simpa [Value.ownBlock] using e
      omega)⟩
/-- What Of answers, and where it lies. -/
def OfEnd (w : World) (o : Option (List Rec)) (e : Ending) (w' : World) : Prop :=
  (∃ L v, o = some L ∧ e = .returned (.tuple #[v, .int .i64 0]) ∧ Own w' w.heap.size v L ∧ Below w.heap.size w w') ∨ (o = none ∧ e = .returned (.tuple #[.slice none 0 0, .int .i64 90]) ∧ Below w.heap.size w w')
theorem NextE.le {base : Int} {s : ByteArray} {off : Int} {key val : ByteArray} {gone : Bool} {t : ByteArray} {ok : Bool} (h : NextE base s off key val gone t ok) : key.size ≤ s.size ∧ val.size ≤ s.size ∧ t.size ≤ s.size := by
  obtain ⟨x1, s1, g1, x2, s2, g2, s3, g3, x3, s4, g4, h1, h2, h3, h4, rfl, h5⟩ := h
  have a1 := h1.le
  have a2 := h2.le
  have a3 := h3.le
  have a4 := h4.le
  rcases h5 with ⟨_, rfl, rfl, rfl, _⟩ | ⟨_, rfl, g5, h5, _⟩
  · exact ⟨by omega, Nat.zero_le _, by omega⟩
  · have a5 := h5.le
    exact ⟨by omega, by omega, by omega⟩
theorem news4 (W : World) (a b c d : Value) (t : TypeId) : ∀ j u, [a, b, c, d][j]? = some u → (W.alloc (.cells #[a, b, c, d] t)).cell? ((⟨W.heap.size, 0, none⟩ : Addr).add j) = some u := by
  intro j u h
  match j, h with
  | 0, h => simp at h; subst h; simp [Addr.add]
  | 1, h => simp at h; subst h; simp [Addr.add]
  | 2, h => simp at h; subst h; simp [Addr.add]
  | 3, h => simp at h; subst h; simp [Addr.add]
theorem one4 (off : Int) (key val : ByteArray) (gone : Bool) : ∀ u ∈ [Value.int .i64 off, .string key, .string val, .bool gone], u.oneCell' = true := by
  intro u hu
  simp only [List.mem_cons, List.not_mem_nil, or_false] at hu
  rcases hu with rfl | rfl | rfl | rfl <;> rfl
theorem isEmpty_mk (R : List UInt8) : (mk R).toList.isEmpty = R.isEmpty := by
  rw [ByteArray.toList_eq, mk_toList]
theorem Own.lt {w : World} {B : Nat} {v : Value} {L : List Rec} (h : Own w B v L) {k : Nat} (hk : w.heap.size ≤ k) : v.ownBlock ≠ some k := by
  rcases h.2 with ⟨rfl, _⟩ | ⟨g, cap, cur, rfl, _, hh, _⟩
  · simp [Value.ownBlock]
  · have := lt_of_block hh
    intro e
    have e' : g = k := by simpa [Value.ownBlock] using e
    omega
/-- What Of answers of whatever bytes. -/
noncomputable def ofO (S : List UInt8) (base n : Int) : Option (List Rec) := if offB base = true ∧ 0 ≤ n then ofL base n.toNat S else none
end Go.Proofs.Ytpjjenhimnkdcaa
namespace Go.Proofs.Ytpjjenhimnkdcaa
open Go.RowKit
set_option linter.unusedVariables false

theorem drop_len {a b : List UInt8} : (a ++ b).drop a.length = b := by simp
theorem take_len {a b : List UInt8} : (a ++ b).take a.length = a := by simp
theorem wrap_small (x : Int) (h0 : 0 ≤ x) (h1 : x < 1099511627776) : IntKind.i64.wrap x = x := by
  rw [IntWalk.i64_left]
  exact IntWalk.wrap64_in x ⟨by omega, by omega⟩
/-- A record's bytes are read as the record. -/
theorem rdRec_recL (base : Int) (r : Rec) (R : List UInt8) (hm : mayB r = true) (h0 : 0 ≤ base) (h1 : base ≤ r.off) : rdRec base (recL base r ++ R) = some (r, R) := by
  obtain ⟨h2, h3, h4, h5⟩ := (mayB_iff r).1 hm
  obtain ⟨ho1, ho2⟩ : 0 ≤ r.off ∧ r.off < 1099511627776 := by unfold offB at h2; simpa using h2
  obtain ⟨off, key, val, gone⟩ := r
  simp only at h1 h3 h4 h5 ho1 ho2
  obtain ⟨d, hd⟩ : ∃ d : Nat, off - base = d := Int.eq_ofNat_of_zero_le (by omega)
  have hkl := data_len key
  have hvl := data_len val
  unfold rdRec recL
  simp only
  rw [show (off - base).toNat = d by omega]
  simp only [List.append_assoc]
  rw [varD_vb d _ (by omega)]
  simp only
  rw [drop_len, varD_vb key.size _ (by omega)]
  simp only
  rw [drop_len]
  have e1 : (key.data.toList ++ ((if gone = true then vb 0 else vb (val.size + 1) ++ val.data.toList) ++ R)).drop key.size = (if gone = true then vb 0 else vb (val.size + 1) ++ val.data.toList) ++ R := by rw [← hkl]; exact drop_len
  have e2 : (key.data.toList ++ ((if gone = true then vb 0 else vb (val.size + 1) ++ val.data.toList) ++ R)).take key.size = key.data.toList := by rw [← hkl]; exact take_len
  rw [if_pos (by rw [List.length_append]; omega), e1, e2, mk_data]
  have ew : IntKind.i64.wrap (base + (d : Nat)) = off := by rw [show base + (d : Nat) = off by omega]; exact wrap_small off ho1 ho2
  rw [ew]
  cases gone with
  | true =>
    simp only [if_true]
    rw [varD_vb 0 _ (by omega)]
    simp only
    rw [drop_len]
    have hv : val = ⟨#[]⟩ := by
      have h6 := h5 rfl
      rw [← mk_data val]
      have : val.data.toList = [] := List.eq_nil_of_length_eq_zero (by omega)
      rw [this]
      rfl
    rw [hv]
    rfl
  | false =>
    simp only [Bool.false_eq_true, if_false, List.append_assoc]
    rw [varD_vb (val.size + 1) _ (by omega)]
    simp only
    rw [if_neg (by omega), drop_len]
    have e3 : (val.data.toList ++ R).drop (val.size + 1 - 1) = R := by rw [Nat.add_sub_cancel, ← hvl]; exact drop_len
    have e4 : (val.data.toList ++ R).take (val.size + 1 - 1) = val.data.toList := by rw [Nat.add_sub_cancel, ← hvl]; exact take_len
    rw [e3, e4, if_pos (by rw [List.length_append]; omega), mk_data]
theorem comes_low {L : List Rec} {low low' : Int} (h : comes L low = true) (hl : low' ≤ low) : comes L low' = true := by
  cases L with
  | nil => rfl
  | cons r L =>
    simp only [comes, Bool.and_eq_true, decide_eq_true_eq] at h ⊢
    exact ⟨⟨h.1.1, by omega⟩, h.2⟩
theorem rdN_recsL (base : Int) (L : List Rec) (low : Int) (R : List UInt8) (hc : comes L low = true) (h0 : 0 ≤ base) (h1 : base ≤ low) : rdN base L.length (recsL base L ++ R) = some (L, R) := by
  induction L generalizing low with
  | nil => rfl
  | cons r L ih =>
    simp only [comes, Bool.and_eq_true, decide_eq_true_eq] at hc
    simp only [recsL, List.length_cons, rdN, List.append_assoc]
    rw [rdRec_recL base r _ hc.1.1 h0 (by omega)]
    simp only
    rw [ih (r.off + 1) hc.2 (by omega)]
/-- Of of Bytes. -/
theorem ofL_recsL (base : Int) (L : List Rec) (hc : comes L base = true) (h0 : 0 ≤ base) : ofL base L.length (recsL base L) = some L := by
  have h := rdN_recsL base L base [] hc h0 (Int.le_refl _)
  rw [List.append_nil] at h
  unfold ofL
  rw [h]
  simp only [hc]
  rfl
theorem ofL_behind (base : Int) (L : List Rec) (x : UInt8) (R : List UInt8) (hc : comes L base = true) (h0 : 0 ≤ base) : ofL base L.length (recsL base L ++ x :: R) = none := by
  have h := rdN_recsL base L base (x :: R) hc h0 (Int.le_refl _)
  unfold ofL
  rw [h]
  simp
theorem rdRec_nil (base : Int) : rdRec base [] = none := by
  unfold rdRec
  rw [varD_nil]
theorem ofL_one_more (base : Int) (L : List Rec) (hc : comes L base = true) (h0 : 0 ≤ base) : ofL base (L.length + 1) (recsL base L) = none := by
  have h := rdN_recsL base L base [] hc h0 (Int.le_refl _)
  rw [List.append_nil] at h
  exact ofL_more (k := 0) h (rdRec_nil base)
/-- What is read of a text's beginning is read of the text. -/
theorem rdRec_append {base : Int} {R R' : List UInt8} {r : Rec} (h : rdRec base R = some (r, R')) (m : List UInt8) : rdRec base (R ++ m) = some (r, R' ++ m) := by
  unfold rdRec at h ⊢
  cases h1 : varD (mk R) with
  | none => rw [h1] at h; cases h
  | some p =>
    obtain ⟨x1, n1⟩ := p
    have l1 := (varD_le h1).2.2.2
    rw [mk_size] at l1
    rw [varD_append h1]
    rw [h1] at h
    simp only at h ⊢
    rw [List.drop_append_of_le_length l1]
    cases h2 : varD (mk (R.drop n1)) with
    | none => rw [h2] at h; cases h
    | some p =>
      obtain ⟨x2, n2⟩ := p
      have l2 := (varD_le h2).2.2.2
      rw [mk_size] at l2
      rw [varD_append h2]
      rw [h2] at h
      simp only at h ⊢
      rw [List.drop_append_of_le_length l2]
      generalize (R.drop n1).drop n2 = Q at h ⊢
      by_cases h3 : x2 ≤ Q.length
      · rw [if_pos h3] at h
        rw [if_pos (by rw [List.length_append]; omega), List.drop_append_of_le_length h3, List.take_append_of_le_length h3]
        cases h4 : varD (mk (Q.drop x2)) with
        | none => rw [h4] at h; cases h
        | some p =>
          obtain ⟨x3, n3⟩ := p
          have l3 := (varD_le h4).2.2.2
          rw [mk_size] at l3
          rw [varD_append h4]
          rw [h4] at h
          simp only at h ⊢
          rw [List.drop_append_of_le_length l3]
          generalize (Q.drop x2).drop n3 = U at h ⊢
          by_cases h5 : x3 = 0
          · rw [if_pos h5] at h ⊢
            cases h
            rfl
          · rw [if_neg h5] at h ⊢
            by_cases h6 : x3 - 1 ≤ U.length
            · rw [if_pos h6] at h
              rw [if_pos (by rw [List.length_append]; omega), List.drop_append_of_le_length h6, List.take_append_of_le_length h6]
              cases h
              rfl
            · rw [if_neg h6] at h; cases h
      · rw [if_neg h3] at h; cases h
theorem rdN_append {base : Int} {n : Nat} {R R' : List UInt8} {L : List Rec} (h : rdN base n R = some (L, R')) (m : List UInt8) : rdN base n (R ++ m) = some (L, R' ++ m) := by
  induction n generalizing R L R' with
  | zero => simp only [rdN] at h ⊢; cases h; rfl
  | succ n ih =>
    simp only [rdN] at h ⊢
    cases hr : rdRec base R with
    | none => rw [hr] at h; cases h
    | some p =>
      obtain ⟨r, R1⟩ := p
      rw [rdRec_append hr]
      rw [hr] at h
      simp only at h ⊢
      cases hn : rdN base n R1 with
      | none => rw [hn] at h; cases h
      | some p =>
        obtain ⟨L1, R2⟩ := p
        rw [ih hn]
        rw [hn] at h
        cases h
        rfl
/-- Bytes of records that lack some are none. -/
theorem ofL_cut (base : Int) (L : List Rec) (k : Nat) (hc : comes L base = true) (h0 : 0 ≤ base) (hk : k < (recsL base L).length) : ofL base L.length ((recsL base L).take k) = none := by
  unfold ofL
  cases h : rdN base L.length ((recsL base L).take k) with
  | none => rfl
  | some p =>
    obtain ⟨M, R'⟩ := p
    have h1 := rdN_append h ((recsL base L).drop k)
    rw [List.take_append_drop] at h1
    have h2 := rdN_recsL base L base [] hc h0 (Int.le_refl _)
    rw [List.append_nil, h1] at h2
    have h3 : R' ++ (recsL base L).drop k = [] := by
      have := Option.some.inj h2
      exact congrArg Prod.snd this
    have h4 : ((recsL base L).drop k).length = 0 := by
      have := congrArg List.length h3
      simp only [List.length_append, List.length_nil] at this
      omega
    rw [List.length_drop] at h4
    omega
/-- Records that are all higher by as much. -/
def shift (k : Int) (r : Rec) : Rec := ⟨r.off + k, r.key, r.val, r.gone⟩
theorem recL_shift (base k : Int) (r : Rec) : recL (base + k) (shift k r) = recL base r := by
  unfold recL shift
  simp only
  rw [show r.off + k - (base + k) = r.off - base by omega]
theorem recsL_shift (base k : Int) (L : List Rec) : recsL (base + k) (L.map (shift k)) = recsL base L := by
  induction L with
  | nil => rfl
  | cons r L ih => simp only [List.map_cons, recsL, ih, recL_shift]
theorem comes_shift (low k : Int) (L : List Rec) (hk : 0 ≤ k) (hl : ∀ r ∈ L, r.off + k < 1099511627776) (h : comes L low = true) : comes (L.map (shift k)) (low + k) = true := by
  induction L generalizing low with
  | nil => rfl
  | cons r L ih =>
    simp only [comes, Bool.and_eq_true, decide_eq_true_eq] at h
    simp only [List.map_cons, comes, Bool.and_eq_true, decide_eq_true_eq]
    have hr := (mayB_iff r).1 h.1.1
    refine ⟨⟨(mayB_iff _).2 ⟨?_, hr.2⟩, ?_⟩, ?_⟩
    · have h1 := hr.1
      have h2 := hl r List.mem_cons_self
      unfold offB at h1 ⊢
      simp only [Bool.and_eq_true, decide_eq_true_eq] at h1 ⊢
      exact ⟨by show 0 ≤ r.off + k; omega, by show r.off + k < _; omega⟩
    · show low + k ≤ r.off + k; omega
    · have := ih (r.off + 1) (fun x hx => hl x (List.mem_cons_of_mem _ hx)) h.2
      rw [show r.off + 1 + k = (shift k r).off + 1 by show _ = r.off + k + 1; omega] at this
      exact this
end Go.Proofs.Ytpjjenhimnkdcaa
namespace Go.Proofs.Ytpjjenhimnkdcaa
open Go.RowKit
set_option linter.unusedVariables false

/-- Are two records the same? -/
def eqR (a : Int) (k v : ByteArray) (g : Bool) (a' : Int) (k' v' : ByteArray) (g' : Bool) : Bool := (a == a') && ((k.toList == k'.toList) && ((v.toList == v'.toList) && (g == g')))
theorem eql_rec (a a' : Int) (k v k' v' : ByteArray) (g g' : Bool) (w : World) :
    (Op.equalIn 10000 47 (.agg #[.int .i64 a, .string k, .string v, .bool g]) (.agg #[.int .i64 a', .string k', .string v', .bool g'])).run Try.prog w = .ok (eqR a k v g a' k' v' g') w := by
  rw [run_equalIn_struct w 9999 _ _ _ (by kernel_rfl) (by kernel_rfl)]
  simp only [Program.fieldsOf, Try.underlying47]
  simp [Op.eqFields, go_sem]
  unfold eqR
  by_cases h1 : a = a'
  · by_cases h2 : k.toList = k'.toList
    · by_cases h3 : v.toList = v'.toList
      · by_cases h4 : g = g'
        · simp [h1, h2, h3, h4]
        · simp [h1, h2, h3, h4]
      · simp [h1, h2, h3]
    · simp [h1, h2]
  · simp [h1]
theorem run_eqlR (a a' : Int) (k v k' v' : ByteArray) (g g' : Bool) (w : World) :
    (binOp .eql 47 (.agg #[.int .i64 a, .string k, .string v, .bool g]) (.agg #[.int .i64 a', .string k', .string v', .bool g'])).run Try.prog w = .ok (.bool (eqR a k v g a' k' v' g')) w := by
  rw [run_eql_struct, eql_rec]
  rfl
theorem run_neqR (a a' : Int) (k v k' v' : ByteArray) (g g' : Bool) (w : World) :
    (binOp .neq 47 (.agg #[.int .i64 a, .string k, .string v, .bool g]) (.agg #[.int .i64 a', .string k', .string v', .bool g'])).run Try.prog w = .ok (.bool (!eqR a k v g a' k' v' g')) w := by
  rw [run_neq_struct, eql_rec]
  rfl
theorem eqR_self (a : Int) (k v : ByteArray) (g : Bool) : eqR a k v g a k v g = true := by simp [eqR]
theorem toList_inj {a b : ByteArray} (h : a.toList = b.toList) : a = b := by
  rw [ByteArray.toList_eq, ByteArray.toList_eq] at h
  rw [← mk_data a, ← mk_data b, h]
theorem eqR_iff (p q : Rec) : eqR p.off p.key p.val p.gone q.off q.key q.val q.gone = true ↔ p = q := by
  constructor
  · intro h
    simp only [eqR, Bool.and_eq_true, beq_iff_eq] at h
    obtain ⟨h1, h2, h3, h4⟩ := h
    obtain ⟨a, b, c, d⟩ := p
    obtain ⟨a', b', c', d'⟩ := q
    simp only at h1 h2 h3 h4
    rw [h1, toList_inj h2, toList_inj h3, h4]
  · rintro rfl; exact eqR_self _ _ _ _
theorem Own.row {w : World} {B : Nat} {v : Value} {r : Rec} {L : List Rec} (h : Own w B v (r :: L)) : ∃ g cap, v = .slice (some ⟨g, 0, none⟩) (L.length + 1) cap ∧ g < w.heap.size ∧ B ≤ g ∧ RIn w (some ⟨g, 0, none⟩) (r :: L) := by
  have h' := h
  rcases h.2 with ⟨rfl, h0⟩ | ⟨g, cap, cur, rfl, hB, hh, _⟩
  · simp at h0
  · exact ⟨g, cap, rfl, lt_of_block hh, hB, RIn.owned h' (lt_of_block hh)⟩
theorem rin_new (w : World) (r : Rec) : RIn (w.alloc (.cells #[.int .i64 r.off, .string r.key, .string r.val, .bool r.gone] 47)) (some ⟨w.heap.size, 0, none⟩) [r] := by
  intro i q hq
  cases i with
  | zero =>
    simp at hq
    subst hq
    exact ⟨_, 0, rfl, by simp, by simp, by simp, by simp, by simp⟩
  | succ i => simp at hq
/-- The cells of a record that is gone. -/
def RB0 (w : World) (g : Nat) : Prop := w.cell? ⟨g, 0, none⟩ = some (.int .i64 7) ∧ w.cell? ⟨g, 1, none⟩ = some (.string ⟨#[107]⟩) ∧ w.cell? ⟨g, 2, none⟩ = some (.string ⟨#[]⟩) ∧ w.cell? ⟨g, 3, none⟩ = some (.bool true)
theorem aw_bytes (W : World) : Calls Try.prog 34 #[.slice (some ⟨W.heap.size, 0, none⟩) 1 1, .int .i64 5] (W.alloc (.cells #[.int .i64 7, .string ⟨#[107]⟩, .string ⟨#[118]⟩, .bool false] 47)) fun e w' => e = .returned (.tuple #[.string ⟨#[2, 1, 107, 2, 118]⟩, .int .i64 0]) ∧ Below W.heap.size W w' := by
  have h := bytes_ok (some ⟨W.heap.size, 0, none⟩) 1 [⟨7, ⟨#[107]⟩, ⟨#[118]⟩, false⟩] 5 _ (rin_new W ⟨7, ⟨#[107]⟩, ⟨#[118]⟩, false⟩) (by intro r hr; simp at hr; subst hr; exact ⟨by decide, by decide⟩) (by simp)
  have hv : bytesV [⟨7, ⟨#[107]⟩, ⟨#[118]⟩, false⟩] 5 = .tuple #[.string ⟨#[2, 1, 107, 2, 118]⟩, .int .i64 0] := rfl
  refine h.mono ?_
  rintro e w' ⟨rfl, hb⟩
  exact ⟨by rw [hv], ((Below.refl _ W).alloc (Nat.le_refl _) _).trans (hb.mono (by simp))⟩
end Go.Proofs.Ytpjjenhimnkdcaa
