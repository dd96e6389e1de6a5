/- A slice of records that came in: what its cells hold, and what its bulk bounds. -/
/- The walk of RecordCuts. -/
/- Messages: which may be, their bytes, and messages out of bytes: plain mathematics. -/
/- Messages that lie in memory; the small functions of package wire. -/
/- Which messages may be: bodyMayBe, numbersMayBe, Check. -/
import Derived.Test.YtalpbnkmppdgdaaRows
import Derived.Test.YtalpbnkmppdgdaaV09
import Derived.ProofKit
import Derived.Deep.Slices
import Derived.ChangeArms
import Derived.Test.YtalpbnkmppdgdaaV10
import Derived.Deep.CutRange
namespace Go.Proofs.Ytalpbnkmppdgdaa
open Go.RowKit Go.Deep
set_option linter.unusedVariables false

theorem Try.cellsRec : Try.prog.cellsOf 56 = 4 := by kernel_rfl
theorem Try.cellsInt : Try.prog.cellsOf 3 = 1 := by kernel_rfl
theorem Try.cellsStr : Try.prog.cellsOf 9 = 1 := by kernel_rfl
theorem Try.cellsBool : Try.prog.cellsOf 4 = 1 := by kernel_rfl
theorem add_none (b off n : Nat) : (⟨b, off, none⟩ : Addr).add n = ⟨b, off + n, none⟩ := by
  unfold Addr.add
  split
  · next h => subst h; rfl
  · rfl
theorem open_rec {H : Type} {enc : TypeId × Value → H} {W : World} {n : Nat} {cs : List Value} {y : DataW H × List MemPlace} (h : DataW.trod enc Try.prog W 0 (fun _ => true) true n 56 cs = some y) :
    ∃ r : Rec, cs = r.cs ∧ y.1 = .agg [.lit (.int .i64 r.off), .lit (.string r.key.data.toList), .lit (.string r.val.data.toList), .lit (.bool r.gone)] ∧ r.key.size ≤ maxLen ∧ r.val.size ≤ maxLen := by
  obtain ⟨xs, n', _, rfl, hl, hlen, hf⟩ := DataW.trod_struct Try.underlying56 h
  rw [Try.cellsRec] at hl
  match cs, hl, xs, hlen with
  | [c0, c1, c2, c3], _, [y0, y1, y2, y3], _ =>
    have f0 : DataW.trod enc Try.prog W 0 (fun _ => true) true n' 3 (([c0, c1, c2, c3].drop 0).take (Try.prog.cellsOf 3)) = some y0 := hf 0 _ rfl
    have f1 : DataW.trod enc Try.prog W 0 (fun _ => true) true n' 9 (([c0, c1, c2, c3].drop 1).take (Try.prog.cellsOf 9)) = some y1 := hf 1 _ rfl
    have f2 : DataW.trod enc Try.prog W 0 (fun _ => true) true n' 9 (([c0, c1, c2, c3].drop 2).take (Try.prog.cellsOf 9)) = some y2 := hf 2 _ rfl
    have f3 : DataW.trod enc Try.prog W 0 (fun _ => true) true n' 4 (([c0, c1, c2, c3].drop 3).take (Try.prog.cellsOf 4)) = some y3 := hf 3 _ rfl
    rw [Try.cellsInt] at f0
    rw [Try.cellsStr] at f1 f2
    rw [Try.cellsBool] at f3
    obtain ⟨k, e0, z0, _⟩ := DataW.trod_int Try.underlying3 f0
    obtain ⟨s, e1, z1, hs⟩ := DataW.trod_string Try.underlying9 f1
    obtain ⟨t, e2, z2, ht⟩ := DataW.trod_string Try.underlying9 f2
    obtain ⟨g, e3, z3⟩ := DataW.trod_bool Try.underlying4 f3
    simp at e0 e1 e2 e3
    subst e0 e1 e2 e3
    subst z0 z1 z2 z3
    exact ⟨⟨k, s, t, g⟩, rfl, rfl, hs, ht⟩
theorem bulk_append {H : Type} (l r : List (DataW H)) : Rows.uptoBulkAll (l ++ r) = Rows.uptoBulkAll l + Rows.uptoBulkAll r := by
  induction l with
  | nil => simp [Rows.uptoBulkAll]
  | cons x l ih => simp only [List.cons_append, Rows.uptoBulkAll, ih]; omega
theorem bulk_len {H : Type} (n : Nat) (Q : Nat → Rec) :
    n ≤ Rows.uptoBulkAll (H := H) ((List.range n).map fun i => .agg [.lit (.int .i64 (Q i).off), .lit (.string (Q i).key.data.toList), .lit (.string (Q i).val.data.toList), .lit (.bool (Q i).gone)]) := by
  induction n with
  | zero => exact Nat.zero_le _
  | succ n ih =>
    rw [List.range_succ, List.map_append, bulk_append]
    simp only [List.map_cons, List.map_nil, Rows.uptoBulkAll, Rows.uptoBulk]
    omega
theorem open_recs {H : Type} {enc : TypeId × Value → H} {W : World} {fuel : Nat} {a0 : Option Addr} {len cap : Nat} {x : DataW H × List MemPlace} (h : DataW.trod enc Try.prog W 0 (fun _ => true) true fuel 26 [.slice a0 len cap] = some x) :
    ∃ L : List Rec, L.length = len ∧ RIn W a0 L ∧ Sized L ∧ len ≤ 9223372036854775807 ∧ len ≤ Rows.uptoBulk x.1 ∧ (L ≠ [] → cap ≤ 9223372036854775807 ∧ ∃ b off, a0 = some ⟨b, off, none⟩) := by
  rcases open_slice Try.underlying26 h with ⟨h0, _⟩ | ⟨a, len', cap', m, n, D, Pl, hcs, _, hlc, hcm, hm, rfl, hx⟩
  · cases h0
    exact ⟨[], rfl, RIn.nil _ _, (fun r hr => by cases hr), by omega, Nat.zero_le _, fun h => absurd rfl h⟩
  · cases hcs
    rcases Nat.eq_zero_or_pos len with hz | hpos
    · subst hz
      exact ⟨[], rfl, RIn.nil _ _, (fun r hr => by cases hr), by omega, Nat.zero_le _, fun h => absurd rfl h⟩
    rw [Try.cellsRec] at hx
    have hlm : len ≤ m := by rw [hm]; simp; exact hlc
    obtain ⟨b, off, spot⟩ := a
    have hcell : ∀ i, i < len → ∃ q : Rec, ((∀ j, j < 4 → W.cell? (((⟨b, off, spot⟩ : Addr).add (i * 4)).add j) = q.cs[j]?) ∧ q.key.size ≤ maxLen ∧ q.val.size ≤ maxLen) ∧
        D i = .agg [.lit (.int .i64 q.off), .lit (.string q.key.data.toList), .lit (.string q.val.data.toList), .lit (.bool q.gone)] := by
      intro i hi
      obtain ⟨cs', h1, h2⟩ := hx i (by omega)
      obtain ⟨r, rfl, hd, hk, hv⟩ := open_rec h2
      obtain ⟨_, _, h3⟩ := World.cells?_some h1
      exact ⟨r, ⟨h3, hk, hv⟩, hd⟩
    have hnz : ∃ q : Rec, True := ⟨⟨0, ⟨#[]⟩, ⟨#[]⟩, false⟩, trivial⟩
    have hch : ∃ Q : Nat → Rec, ∀ i, i < len → ((∀ j, j < 4 → W.cell? (((⟨b, off, spot⟩ : Addr).add (i * 4)).add j) = (Q i).cs[j]?) ∧ (Q i).key.size ≤ maxLen ∧ (Q i).val.size ≤ maxLen) ∧
        D i = .agg [.lit (.int .i64 (Q i).off), .lit (.string (Q i).key.data.toList), .lit (.string (Q i).val.data.toList), .lit (.bool (Q i).gone)] := by
      refine ⟨fun i => open Classical in if hi : i < len then (hcell i hi).choose else ⟨0, ⟨#[]⟩, ⟨#[]⟩, false⟩, fun i hi => ?_⟩
      simp only [dif_pos hi]
      exact (hcell i hi).choose_spec
    obtain ⟨Q, hQ⟩ := hch
    have hsp : spot = none := by
      have h0 := (hQ 0 hpos).1.1 0 (by omega)
      have := World.cell?_spot (w := W) (a := ⟨b, off, spot⟩) (v := .int .i64 (Q 0).off) (by simpa [Addr.add, Rec.cs] using h0)
      exact this
    subst hsp
    have hlt : b < W.heap.size := by
      have h0 := (hQ 0 hpos).1.1 0 (by omega)
      exact World.block_lt_of_cell? W ⟨b, off, none⟩ (u := .int .i64 (Q 0).off) (by simpa [Addr.add, Rec.cs] using h0)
    have had : ∀ i j, ((⟨b, off, none⟩ : Addr).add (i * 4)).add j = ⟨b, off + i * 4 + j, none⟩ := by
      intro i j
      rw [add_none, add_none]
    refine ⟨(List.range len).map Q, by simp, ?_, ?_, by unfold maxLen at hcm; omega, ?_, fun _ => ⟨by unfold maxLen at hcm; omega, b, off, rfl⟩⟩
    · intro i r hr
      have hi : i < len := by
        rcases Nat.lt_or_ge i len with h | h
        · exact h
        · rw [List.getElem?_eq_none (by simpa using h)] at hr; cases hr
      have hr' : Q i = r := by
        rw [List.getElem?_map, List.getElem?_range hi] at hr
        simpa using hr
      subst hr'
      have hc := (hQ i hi).1.1
      refine ⟨b, off, rfl, hlt, ?_, ?_, ?_, ?_⟩
      · have := hc 0 (by omega); rw [had] at this; simpa [Rec.cs] using this
      · have := hc 1 (by omega); rw [had] at this; simpa [Rec.cs] using this
      · have := hc 2 (by omega); rw [had] at this; simpa [Rec.cs] using this
      · have := hc 3 (by omega); rw [had] at this; simpa [Rec.cs] using this
    · intro r hr
      simp only [List.mem_map, List.mem_range] at hr
      obtain ⟨i, hi, rfl⟩ := hr
      have := (hQ i hi).1
      unfold maxLen at this
      omega
    · have e : (List.range len).map D = (List.range len).map fun i => .agg [.lit (.int .i64 (Q i).off), .lit (.string (Q i).key.data.toList), .lit (.string (Q i).val.data.toList), .lit (.bool (Q i).gone)] :=
        List.map_congr_left (fun i hi => (hQ i (List.mem_range.1 hi)).2)
      have hb := bulk_len (H := H) len Q
      rw [← e] at hb
      simp only [Rows.uptoBulk]
      omega
end Go.Proofs.Ytalpbnkmppdgdaa
namespace Go.Proofs.Ytalpbnkmppdgdaa
open Go.RowKit
set_option linter.unusedVariables false

theorem bytesV_bad {L : List Rec} {base : Int} (h : (offB base && comes L base) = false) : bytesV L base = .tuple #[.string ⟨#[]⟩, .int .i64 90] := by unfold bytesV; rw [h]; rfl
theorem bytesV_good {L : List Rec} {base : Int} (h : (offB base && comes L base) = true) : bytesV L base = .tuple #[.string (mk (recsL base L)), .int .i64 0] := by unfold bytesV; rw [h]; rfl
theorem vb_pos (n : Nat) : 0 < (vb n).length := by
  unfold vb
  rw [List.length_map]
  show 0 < (varB (9 + 1) n).length
  unfold varB
  split <;> simp
theorem recL_pos (base : Int) (r : Rec) : 0 < (recL base r).length := by
  unfold recL
  have := vb_pos (r.off - base).toNat
  simp only [List.length_append]
  omega
theorem wf_int {n : Int} (h : (Lit.int .i64 n).wf = true) : -9223372036854775808 ≤ n ∧ n ≤ 9223372036854775807 := by
  have h1 : IntKind.i64.min = -9223372036854775808 := rfl
  have h2 : IntKind.i64.max = 9223372036854775807 := rfl
  simp only [Lit.wf, Bool.and_eq_true, decide_eq_true_eq] at h
  omega
end Go.Proofs.Ytalpbnkmppdgdaa
namespace Go.Proofs.Ytalpbnkmppdgdaa
open Go.RowKit
set_option linter.unusedVariables false

/-- A message. -/
structure Msg where
  kind : Int
  frm : Int
  dst : Int
  view : Int
  norm : Int
  fin : Int
  com : Int
  err : Int
  prod : Int
  seq : Int
  base : Int
  log : List ByteArray
  body : List Rec
def Msg.ns (m : Msg) : List Int := [m.kind, m.frm, m.dst, m.view, m.norm, m.fin, m.com, m.err, m.prod, m.seq, m.base]
def inB (n lo hi : Int) : Bool := decide (lo ≤ n) && decide (n ≤ hi)
def offsB (l : List Int) : Bool := l.all fun n => inB n 0 1099511627776
def numsB (m : Msg) : Bool := offsB [m.view, m.norm, m.fin, m.com, m.base, m.prod, m.seq] && (inB m.kind 1 10 && (inB m.frm 0 255 && (inB m.dst 0 255 && inB m.err 0 999)))
def logB (L : List ByteArray) : Bool := decide (L.length ≤ 4096) && L.all fun t => decide (t.size ≤ 262154)
def bodyF : List Rec → Int → Bool
  | [], _ => true
  | r :: L, i => (decide (r.off = i) && mayB r) && bodyF L (i + 1)
def bodyB (L : List Rec) : Bool := decide (L.length ≤ 256) && bodyF L 0
/-- May it be? -/
def mayM (m : Msg) : Bool := numsB m && (logB m.log && bodyB m.body)
def logL : List ByteArray → List UInt8
  | [] => []
  | t :: T => vb t.size ++ t.data.toList ++ logL T
def numsL : List Int → List UInt8
  | [] => []
  | n :: l => vb n.toNat ++ numsL l
/-- Its bytes. -/
def msgL (m : Msg) : List UInt8 := numsL m.ns ++ (vb m.log.length ++ (logL m.log ++ (vb m.body.length ++ recsL 0 m.body)))
/-- So many numbers. -/
noncomputable def rdNums : Nat → List UInt8 → Option (List Nat × List UInt8)
  | 0, R => some ([], R)
  | k + 1, R => match varD (mk R) with
    | none => none
    | some (x, n) => match rdNums k (R.drop n) with
      | none => none
      | some (l, R') => some (x :: l, R')
/-- The next text. -/
noncomputable def rdTxt (R : List UInt8) : Option (List UInt8 × List UInt8) :=
  match varD (mk R) with
  | none => none
  | some (x, n) => if x ≤ (R.drop n).length then some ((R.drop n).take x, (R.drop n).drop x) else none
noncomputable def rdLog : Nat → List UInt8 → Option (List ByteArray × List UInt8)
  | 0, R => some ([], R)
  | k + 1, R => match rdTxt R with
    | none => none
    | some (t, R1) => match rdLog k R1 with
      | none => none
      | some (T, R') => some (mk t :: T, R')
/-- How many records there are, and they. -/
noncomputable def rdBody (R : List UInt8) : Option (List Rec) :=
  match varD (mk R) with
  | none => none
  | some (x, n) => if x ≤ 256 then ofL 0 x (R.drop n) else none
def msgOf (l : List Nat) (T : List ByteArray) (B : List Rec) : Msg :=
  ⟨(l.getD 0 0 : Nat), (l.getD 1 0 : Nat), (l.getD 2 0 : Nat), (l.getD 3 0 : Nat), (l.getD 4 0 : Nat), (l.getD 5 0 : Nat), (l.getD 6 0 : Nat), (l.getD 7 0 : Nat), (l.getD 8 0 : Nat), (l.getD 9 0 : Nat), (l.getD 10 0 : Nat), T, B⟩
/-- What has a message's form. -/
noncomputable def rdRaw (R : List UInt8) : Option Msg :=
  match rdNums 12 R with
  | none => none
  | some (l, R1) => if l.getD 11 0 ≤ 4096 then (match rdLog (l.getD 11 0) R1 with
    | none => none
    | some (T, R2) => match rdBody R2 with
      | none => none
      | some B => some (msgOf l T B)) else none
/-- The message of bytes. -/
noncomputable def rdMsg (R : List UInt8) : Option Msg := match rdRaw R with
  | none => none
  | some m => if mayM m then some m else none
theorem inB_iff (n lo hi : Int) : inB n lo hi = true ↔ lo ≤ n ∧ n ≤ hi := by unfold inB; simp
theorem mayM_iff (m : Msg) : mayM m = true ↔ numsB m = true ∧ logB m.log = true ∧ bodyB m.body = true := by unfold mayM; simp
theorem offsB_mem {l : List Int} (h : offsB l = true) : ∀ n ∈ l, 0 ≤ n ∧ n ≤ 1099511627776 := by
  intro n hn
  have := List.all_eq_true.1 h n hn
  exact (inB_iff _ _ _).1 this
theorem numsB_ns {m : Msg} (h : numsB m = true) : ∀ n ∈ m.ns, 0 ≤ n ∧ n ≤ 1099511627776 := by
  unfold numsB at h
  simp only [Bool.and_eq_true, inB_iff] at h
  obtain ⟨h1, h2, h3, h4, h5⟩ := h
  have h6 := offsB_mem h1
  simp only [List.mem_cons, List.not_mem_nil, or_false, forall_eq_or_imp, forall_eq] at h6
  intro n hn
  simp only [Msg.ns, List.mem_cons, List.not_mem_nil, or_false] at hn
  rcases hn with rfl | rfl | rfl | rfl | rfl | rfl | rfl | rfl | rfl | rfl | rfl <;> omega
theorem bodyF_comes {L : List Rec} {i : Int} (h : bodyF L i = true) : comes L i = true := by
  induction L generalizing i with
  | nil => rfl
  | cons r L ih =>
    simp only [bodyF, Bool.and_eq_true, decide_eq_true_eq] at h
    simp only [comes, Bool.and_eq_true, decide_eq_true_eq]
    obtain ⟨⟨h1, h2⟩, h3⟩ := h
    exact ⟨⟨h2, by omega⟩, ih (by rw [h1]; exact h3)⟩
theorem rdNums_len {k : Nat} {R R' : List UInt8} {l : List Nat} (h : rdNums k R = some (l, R')) : l.length = k := by
  induction k generalizing R l with
  | zero => simp only [rdNums] at h; cases h; rfl
  | succ k ih =>
    simp only [rdNums] at h
    cases hv : varD (mk R) with
    | none => rw [hv] at h; cases h
    | some p =>
      obtain ⟨x, n⟩ := p
      rw [hv] at h
      simp only at h
      cases hn : rdNums k (R.drop n) with
      | none => rw [hn] at h; cases h
      | some p =>
        obtain ⟨l1, R1⟩ := p
        rw [hn] at h
        cases h
        simp [ih hn]
theorem rdNums_add (i k : Nat) (R : List UInt8) : rdNums (i + k) R = match rdNums i R with
    | none => none
    | some (l, R1) => match rdNums k R1 with
      | none => none
      | some (l2, R2) => some (l ++ l2, R2) := by
  induction i generalizing R with
  | zero =>
    simp only [Nat.zero_add, rdNums]
    cases rdNums k R with
    | none => rfl
    | some p => rfl
  | succ i ih =>
    rw [show i + 1 + k = (i + k) + 1 by omega]
    simp only [rdNums]
    cases varD (mk R) with
    | none => rfl
    | some p =>
      obtain ⟨x, n⟩ := p
      simp only [ih]
      cases rdNums i (R.drop n) with
      | none => rfl
      | some p =>
        obtain ⟨l, R1⟩ := p
        simp only
        cases rdNums k R1 with
        | none => rfl
        | some p => rfl
theorem rdNums_snoc {i : Nat} {R R1 : List UInt8} {l : List Nat} {x n : Nat} (h : rdNums i R = some (l, R1)) (hv : varD (mk R1) = some (x, n)) : rdNums (i + 1) R = some (l ++ [x], R1.drop n) := by
  rw [rdNums_add, h]
  simp only [rdNums, hv]
theorem rdNums_stop {i k : Nat} {R R1 : List UInt8} {l : List Nat} (h : rdNums i R = some (l, R1)) (hv : varD (mk R1) = none) : rdNums (i + (k + 1)) R = none := by
  rw [rdNums_add, h]
  simp only [rdNums, hv]
theorem rdNums_more {i k : Nat} {R : List UInt8} (h : rdNums i R = none) : rdNums (i + k) R = none := by
  rw [rdNums_add, h]
theorem rdNums_le {k : Nat} {R R' : List UInt8} {l : List Nat} (h : rdNums k R = some (l, R')) : R'.length ≤ R.length ∧ ∀ x ∈ l, x ≤ 9223372036854775807 := by
  induction k generalizing R l with
  | zero => simp only [rdNums] at h; cases h; exact ⟨Nat.le_refl _, fun x hx => by cases hx⟩
  | succ k ih =>
    simp only [rdNums] at h
    cases hv : varD (mk R) with
    | none => rw [hv] at h; cases h
    | some p =>
      obtain ⟨x, n⟩ := p
      rw [hv] at h
      simp only at h
      cases hn : rdNums k (R.drop n) with
      | none => rw [hn] at h; cases h
      | some p =>
        obtain ⟨l1, R1⟩ := p
        rw [hn] at h
        cases h
        obtain ⟨h1, h2⟩ := ih hn
        refine ⟨by rw [List.length_drop] at h1; omega, fun y hy => ?_⟩
        rcases List.mem_cons.1 hy with rfl | hy
        · exact (varD_le hv).1
        · exact h2 y hy
theorem rdLog_add (i k : Nat) (R : List UInt8) : rdLog (i + k) R = match rdLog i R with
    | none => none
    | some (l, R1) => match rdLog k R1 with
      | none => none
      | some (l2, R2) => some (l ++ l2, R2) := by
  induction i generalizing R with
  | zero =>
    simp only [Nat.zero_add, rdLog]
    cases rdLog k R with
    | none => rfl
    | some p => rfl
  | succ i ih =>
    rw [show i + 1 + k = (i + k) + 1 by omega]
    simp only [rdLog]
    cases rdTxt R with
    | none => rfl
    | some p =>
      obtain ⟨t, R0⟩ := p
      simp only [ih]
      cases rdLog i R0 with
      | none => rfl
      | some p =>
        obtain ⟨l, R1⟩ := p
        simp only
        cases rdLog k R1 with
        | none => rfl
        | some p => rfl
theorem rdLog_snoc {i : Nat} {R R1 R2 t : List UInt8} {T : List ByteArray} (h : rdLog i R = some (T, R1)) (hv : rdTxt R1 = some (t, R2)) : rdLog (i + 1) R = some (T ++ [mk t], R2) := by
  rw [rdLog_add, h]
  simp only [rdLog, hv]
theorem rdLog_stop {i k : Nat} {R R1 : List UInt8} {T : List ByteArray} (h : rdLog i R = some (T, R1)) (hv : rdTxt R1 = none) : rdLog (i + (k + 1)) R = none := by
  rw [rdLog_add, h]
  simp only [rdLog, hv]
theorem rdLog_len {k : Nat} {R R' : List UInt8} {T : List ByteArray} (h : rdLog k R = some (T, R')) : T.length = k := by
  induction k generalizing R T with
  | zero => simp only [rdLog] at h; cases h; rfl
  | succ k ih =>
    simp only [rdLog] at h
    cases hv : rdTxt R with
    | none => rw [hv] at h; cases h
    | some p =>
      obtain ⟨t, R0⟩ := p
      rw [hv] at h
      simp only at h
      cases hn : rdLog k R0 with
      | none => rw [hn] at h; cases h
      | some p =>
        obtain ⟨l1, R1⟩ := p
        rw [hn] at h
        cases h
        simp [ih hn]
/-- What stands behind does not matter. -/
theorem rdNums_append {k : Nat} {R R' : List UInt8} {l : List Nat} (h : rdNums k R = some (l, R')) (m : List UInt8) : rdNums k (R ++ m) = some (l, R' ++ m) := by
  induction k generalizing R l with
  | zero => simp only [rdNums] at h ⊢; cases h; rfl
  | succ k ih =>
    simp only [rdNums] at h
    cases hv : varD (mk R) with
    | none => rw [hv] at h; cases h
    | some p =>
      obtain ⟨x, n⟩ := p
      rw [hv] at h
      simp only at h
      cases hn : rdNums k (R.drop n) with
      | none => rw [hn] at h; cases h
      | some p =>
        obtain ⟨l1, R1⟩ := p
        rw [hn] at h
        cases h
        have hl := varD_le hv
        rw [mk_size] at hl
        simp only [rdNums, varD_append hv m]
        rw [List.drop_append_of_le_length (by omega), ih hn]
theorem rdTxt_append {R R' t : List UInt8} (h : rdTxt R = some (t, R')) (m : List UInt8) : rdTxt (R ++ m) = some (t, R' ++ m) := by
  unfold rdTxt at h ⊢
  cases hv : varD (mk R) with
  | none => rw [hv] at h; cases h
  | some p =>
    obtain ⟨x, n⟩ := p
    rw [hv] at h
    simp only at h
    have hl := varD_le hv
    rw [mk_size] at hl
    by_cases hx : x ≤ (R.drop n).length
    · rw [if_pos hx] at h
      cases h
      simp only [varD_append hv m]
      rw [List.drop_append_of_le_length (by omega), if_pos (by rw [List.length_append]; omega), List.take_append_of_le_length hx, List.drop_append_of_le_length hx]
    · rw [if_neg hx] at h; cases h
theorem rdTxt_le {R R' t : List UInt8} (h : rdTxt R = some (t, R')) : R'.length ≤ R.length ∧ t.length ≤ R.length := by
  unfold rdTxt at h
  cases hv : varD (mk R) with
  | none => rw [hv] at h; cases h
  | some p =>
    obtain ⟨x, n⟩ := p
    rw [hv] at h
    simp only at h
    by_cases hx : x ≤ (R.drop n).length
    · rw [if_pos hx] at h
      cases h
      simp only [List.length_drop, List.length_take]
      omega
    · rw [if_neg hx] at h; cases h
theorem rdLog_append {k : Nat} {R R' : List UInt8} {T : List ByteArray} (h : rdLog k R = some (T, R')) (m : List UInt8) : rdLog k (R ++ m) = some (T, R' ++ m) := by
  induction k generalizing R T with
  | zero => simp only [rdLog] at h ⊢; cases h; rfl
  | succ k ih =>
    simp only [rdLog] at h
    cases hv : rdTxt R with
    | none => rw [hv] at h; cases h
    | some p =>
      obtain ⟨t, R0⟩ := p
      rw [hv] at h
      simp only at h
      cases hn : rdLog k R0 with
      | none => rw [hn] at h; cases h
      | some p =>
        obtain ⟨l1, R1⟩ := p
        rw [hn] at h
        cases h
        simp only [rdLog, rdTxt_append hv m, ih hn]
theorem rdBody_behind {R : List UInt8} {B : List Rec} (h : rdBody R = some B) (x : UInt8) (m : List UInt8) : rdBody (R ++ x :: m) = none := by
  unfold rdBody at h ⊢
  cases hv : varD (mk R) with
  | none => rw [hv] at h; cases h
  | some p =>
    obtain ⟨y, n⟩ := p
    rw [hv] at h
    simp only at h
    have hl := varD_le hv
    rw [mk_size] at hl
    simp only [varD_append hv (x :: m)]
    by_cases hy : y ≤ 256
    · rw [if_pos hy] at h ⊢
      rw [List.drop_append_of_le_length (by omega)]
      unfold ofL at h ⊢
      cases hr : rdN 0 y (R.drop n) with
      | none => rw [hr] at h; cases h
      | some p =>
        obtain ⟨L, R2⟩ := p
        rw [hr] at h
        simp only at h
        rw [rdN_append hr (x :: m)]
        simp
    · rw [if_neg hy] at h; cases h
/-- Behind a message's bytes nothing may stand. -/
theorem rdRaw_behind {R : List UInt8} {q : Msg} (h : rdRaw R = some q) (x : UInt8) (m : List UInt8) : rdRaw (R ++ x :: m) = none := by
  unfold rdRaw at h ⊢
  cases hn : rdNums 12 R with
  | none => rw [hn] at h; cases h
  | some p =>
    obtain ⟨l, R1⟩ := p
    rw [hn] at h
    simp only at h
    rw [rdNums_append hn (x :: m)]
    simp only
    by_cases hy : l.getD 11 0 ≤ 4096
    · rw [if_pos hy] at h ⊢
      cases hg : rdLog (l.getD 11 0) R1 with
      | none => rw [hg] at h; cases h
      | some p =>
        obtain ⟨T, R2⟩ := p
        rw [hg] at h
        simp only at h
        rw [rdLog_append hg (x :: m)]
        simp only
        cases hb : rdBody R2 with
        | none => rw [hb] at h; cases h
        | some B => rw [rdBody_behind hb x m]
    · rw [if_neg hy] at h; cases h
theorem rdMsg_behind {R : List UInt8} {q : Msg} (h : rdMsg R = some q) (x : UInt8) (m : List UInt8) : rdMsg (R ++ x :: m) = none := by
  unfold rdMsg at h ⊢
  cases hr : rdRaw R with
  | none => rw [hr] at h; cases h
  | some p => rw [rdRaw_behind hr x m]
theorem rdMsg_may {R : List UInt8} {q : Msg} (h : rdMsg R = some q) : rdRaw R = some q ∧ mayM q = true := by
  unfold rdMsg at h
  cases hr : rdRaw R with
  | none => rw [hr] at h; cases h
  | some p =>
    rw [hr] at h
    simp only at h
    by_cases hm : mayM p = true
    · rw [if_pos hm] at h; cases h; exact ⟨rfl, hm⟩
    · rw [if_neg hm] at h; cases h
theorem rdNums_numsL (l : List Int) (R : List UInt8) (h : ∀ n ∈ l, 0 ≤ n ∧ n ≤ 1099511627776) : rdNums l.length (numsL l ++ R) = some (l.map Int.toNat, R) := by
  induction l with
  | nil => rfl
  | cons n l ih =>
    have h0 := h n List.mem_cons_self
    have hv := varD_vb n.toNat (numsL l ++ R) (by omega)
    simp only [List.length_cons, rdNums, numsL, List.append_assoc, hv, List.drop_left, ih (fun y hy => h y (List.mem_cons_of_mem _ hy)), List.map_cons]
theorem rdTxt_vb (t : ByteArray) (R : List UInt8) (h : t.size ≤ 9223372036854775807) : rdTxt (vb t.size ++ (t.data.toList ++ R)) = some (t.data.toList, R) := by
  have hv := varD_vb t.size (t.data.toList ++ R) h
  have hd := data_len t
  unfold rdTxt
  simp only [hv, List.drop_left]
  rw [if_pos (by rw [List.length_append]; omega), ← hd]
  simp
theorem rdLog_logL (T : List ByteArray) (R : List UInt8) (h : ∀ t ∈ T, t.size ≤ 262154) : rdLog T.length (logL T ++ R) = some (T, R) := by
  induction T with
  | nil => rfl
  | cons t T ih =>
    have h0 := h t List.mem_cons_self
    simp only [List.length_cons, rdLog, logL, List.append_assoc, rdTxt_vb t (logL T ++ R) (by omega), ih (fun y hy => h y (List.mem_cons_of_mem _ hy)), mk_data]
theorem logB_iff (L : List ByteArray) : logB L = true ↔ L.length ≤ 4096 ∧ ∀ t ∈ L, t.size ≤ 262154 := by
  unfold logB; simp
theorem bodyB_iff (L : List Rec) : bodyB L = true ↔ L.length ≤ 256 ∧ bodyF L 0 = true := by
  unfold bodyB; simp
theorem nat_id {n : Int} (h : 0 ≤ n) : ((n.toNat : Nat) : Int) = n := by omega
/-- A message's bytes are read as it. -/
theorem rdMsg_msgL (m : Msg) (h : mayM m = true) : rdMsg (msgL m) = some m := by
  obtain ⟨h1, h2, h3⟩ := (mayM_iff m).1 h
  have hn := numsB_ns h1
  obtain ⟨hl1, hl2⟩ := (logB_iff _).1 h2
  obtain ⟨hb1, hb2⟩ := (bodyB_iff _).1 h3
  have e1 : rdNums 12 (msgL m) = some (m.ns.map Int.toNat ++ [m.log.length], logL m.log ++ (vb m.body.length ++ recsL 0 m.body)) := by
    have a := rdNums_numsL m.ns (vb m.log.length ++ (logL m.log ++ (vb m.body.length ++ recsL 0 m.body))) hn
    have b := varD_vb m.log.length (logL m.log ++ (vb m.body.length ++ recsL 0 m.body)) (by omega)
    have c := rdNums_snoc a b
    rw [List.drop_left] at c
    exact c
  have e2 := rdLog_logL m.log (vb m.body.length ++ recsL 0 m.body) hl2
  have e3 : rdBody (vb m.body.length ++ recsL 0 m.body) = some m.body := by
    unfold rdBody
    rw [varD_vb m.body.length _ (by omega)]
    simp only [List.drop_left]
    rw [if_pos hb1]
    exact ofL_recsL 0 m.body (bodyF_comes hb2) (Int.le_refl _)
  have hm : msgOf (m.ns.map Int.toNat ++ [m.log.length]) m.log m.body = m := by
    obtain ⟨kind, frm, dst, view, norm, fin, com, err, prod, seq, base, log, body⟩ := m
    simp only [Msg.ns, List.mem_cons, List.not_mem_nil, or_false, forall_eq_or_imp, forall_eq] at hn
    obtain ⟨g0, g1, g2, g3, g4, g5, g6, g7, g8, g9, g10⟩ := hn
    simp [msgOf, Msg.ns, nat_id g0.1, nat_id g1.1, nat_id g2.1, nat_id g3.1, nat_id g4.1, nat_id g5.1, nat_id g6.1, nat_id g7.1, nat_id g8.1, nat_id g9.1, nat_id g10.1]
  have h11 : (m.ns.map Int.toNat ++ [m.log.length]).getD 11 0 = m.log.length := rfl
  unfold rdMsg rdRaw
  rw [e1]
  simp only [h11, if_pos hl1, e2, e3, hm, h, if_true]
theorem rdMsg_cut (m : Msg) (h : mayM m = true) (k : Nat) (hk : k < (msgL m).length) : rdMsg ((msgL m).take k) = none := by
  cases hr : rdMsg ((msgL m).take k) with
  | none => rfl
  | some q =>
    obtain ⟨x, t, hd⟩ : ∃ x t, (msgL m).drop k = x :: t := by
      cases hd : (msgL m).drop k with
      | nil => have := congrArg List.length hd; rw [List.length_drop] at this; simp at this; omega
      | cons x t => exact ⟨x, t, rfl⟩
    have := rdMsg_behind hr x t
    rw [← hd, List.take_append_drop, rdMsg_msgL m h] at this
    cases this
theorem msgL_inj (a b : Msg) (ha : mayM a = true) (hb : mayM b = true) (h : msgL a = msgL b) : a = b := by
  have h1 := rdMsg_msgL a ha
  rw [h, rdMsg_msgL b hb] at h1
  cases h1
  rfl
theorem msgL_pos (m : Msg) : 0 < (msgL m).length := by
  have := vb_pos m.log.length
  unfold msgL
  simp only [List.length_append]
  omega
theorem msgL_nil : msgL ⟨5, 0, 0, 0, 0, 0, 0, 0, 0, 0, 0, [], []⟩ = [5, 0, 0, 0, 0, 0, 0, 0, 0, 0, 0, 0, 0] := by decide +kernel
end Go.Proofs.Ytalpbnkmppdgdaa
namespace Go.Proofs.Ytalpbnkmppdgdaa
open Go.RowKit
set_option linter.unusedVariables false

/-- A slice of texts. -/
def TIn (w : World) (a : Option Addr) (L : List ByteArray) : Prop :=
  ∀ i t, L[i]? = some t → ∃ b off, a = some ⟨b, off, none⟩ ∧ b < w.heap.size ∧ w.cell? ⟨b, off + i, none⟩ = some (.string t)
theorem TIn.below {w w' : World} {a : Option Addr} {L : List ByteArray} {B : Nat} (h : TIn w a L) (hb : Below B w w') (hB : w.heap.size ≤ B) : TIn w' a L := by
  intro i r hr
  obtain ⟨b, off, h1, h2, h3⟩ := h i r hr
  exact ⟨b, off, h1, Nat.lt_of_lt_of_le h2 hb.size, by rw [cell_below hb (by omega)]; exact h3⟩
theorem TIn.nil (w : World) (a : Option Addr) : TIn w a [] := fun i r h => by simp at h
def TSized (L : List ByteArray) : Prop := ∀ t ∈ L, t.size ≤ 9223372036854775807
/-- Where a message's slices lie. -/
structure Spot where
  la : Option Addr
  lc : Nat
  ba : Option Addr
  bc : Nat
abbrev Msg.cs (m : Msg) (s : Spot) : Array Value := #[.int .i64 m.kind, .int .i64 m.frm, .int .i64 m.dst, .int .i64 m.view, .int .i64 m.norm, .int .i64 m.fin, .int .i64 m.com, .int .i64 m.err, .int .i64 m.prod, .int .i64 m.seq, .int .i64 m.base, .slice s.la m.log.length s.lc, .slice s.ba m.body.length s.bc]
abbrev Msg.v (m : Msg) (s : Spot) : Value := .agg (m.cs s)
/-- Its slices lie in memory. -/
structure MIn (w : World) (m : Msg) (s : Spot) : Prop where
  log : TIn w s.la m.log
  body : RIn w s.ba m.body
  lsz : TSized m.log
  bsz : Sized m.body
  ll : m.log.length ≤ 9223372036854775807
  bl : m.body.length ≤ 9223372036854775807
theorem MIn.below {w w' : World} {m : Msg} {s : Spot} {B : Nat} (h : MIn w m s) (hb : Below B w w') (hB : w.heap.size ≤ B) : MIn w' m s :=
  ⟨h.log.below hb hB, h.body.below hb hB, h.lsz, h.bsz, h.ll, h.bl⟩
/-- Block b holds a message. -/
def MB (w : World) (b : Nat) (m : Msg) (s : Spot) : Prop := w.heap[b]? = some (.cells (m.cs s) 28 (0, 0))
theorem cells13 {w : World} {b : Nat} {c0 c1 c2 c3 c4 c5 c6 c7 c8 c9 c10 c11 c12 : Value} {t : TypeId} (h : w.heap[b]? = some (.cells #[c0, c1, c2, c3, c4, c5, c6, c7, c8, c9, c10, c11, c12] t (0, 0))) :
    w.cell? ⟨b, 0, none⟩ = some c0 ∧ w.cell? ⟨b, 1, none⟩ = some c1 ∧ w.cell? ⟨b, 2, none⟩ = some c2 ∧ w.cell? ⟨b, 3, none⟩ = some c3 ∧ w.cell? ⟨b, 4, none⟩ = some c4 ∧ w.cell? ⟨b, 5, none⟩ = some c5 ∧ w.cell? ⟨b, 6, none⟩ = some c6 ∧ w.cell? ⟨b, 7, none⟩ = some c7 ∧ w.cell? ⟨b, 8, none⟩ = some c8 ∧ w.cell? ⟨b, 9, none⟩ = some c9 ∧ w.cell? ⟨b, 10, none⟩ = some c10 ∧ w.cell? ⟨b, 11, none⟩ = some c11 ∧ w.cell? ⟨b, 12, none⟩ = some c12 :=
  ⟨by simp [World.cell?, h], by simp [World.cell?, h], by simp [World.cell?, h], by simp [World.cell?, h], by simp [World.cell?, h], by simp [World.cell?, h], by simp [World.cell?, h], by simp [World.cell?, h], by simp [World.cell?, h], by simp [World.cell?, h], by simp [World.cell?, h], by simp [World.cell?, h], by simp [World.cell?, h]⟩
theorem MB.cells {w : World} {b : Nat} {m : Msg} {s : Spot} (h : MB w b m s) :
    w.cell? ⟨b, 0, none⟩ = some (.int .i64 m.kind) ∧ w.cell? ⟨b, 1, none⟩ = some (.int .i64 m.frm) ∧ w.cell? ⟨b, 2, none⟩ = some (.int .i64 m.dst) ∧ w.cell? ⟨b, 3, none⟩ = some (.int .i64 m.view) ∧ w.cell? ⟨b, 4, none⟩ = some (.int .i64 m.norm) ∧ w.cell? ⟨b, 5, none⟩ = some (.int .i64 m.fin) ∧ w.cell? ⟨b, 6, none⟩ = some (.int .i64 m.com) ∧ w.cell? ⟨b, 7, none⟩ = some (.int .i64 m.err) ∧ w.cell? ⟨b, 8, none⟩ = some (.int .i64 m.prod) ∧ w.cell? ⟨b, 9, none⟩ = some (.int .i64 m.seq) ∧ w.cell? ⟨b, 10, none⟩ = some (.int .i64 m.base) ∧ w.cell? ⟨b, 11, none⟩ = some (.slice s.la m.log.length s.lc) ∧ w.cell? ⟨b, 12, none⟩ = some (.slice s.ba m.body.length s.bc) := cells13 h
theorem MB.below {w w' : World} {b : Nat} {m : Msg} {s : Spot} (h : MB w b m s) (hb : Below w.heap.size w w') : MB w' b m s := (hb.block b (lt_of_block h)).trans h
theorem MB.kept {w w' : World} {B b rb : Nat} {m : Msg} {s : Spot} (h : MB w rb m s) (hne : rb ≠ b) (hf : BF B b w w') : MB w' rb m s :=
  hf.kept rb _ h (by simpa using hne) (fun c fz e => by cases e)
theorem isWithin_ok (n lo hi : Int) (w : World) :
    Calls Try.prog 40 #[.int .i64 n, .int .i64 lo, .int .i64 hi] w fun e w' => e = .returned (.bool (inB n lo hi)) ∧ w' = w := by
  by_cases h : lo ≤ n
  · have e : inB n lo hi = decide (n ≤ hi) := by unfold inB; rw [decide_eq_true h]; rfl
    rw [e]
    clear e
    go_enter Try.func40, Try.ntmps40
    go_wp2
    go_ret
    exact ⟨rfl, rfl⟩
  · have e : inB n lo hi = false := by unfold inB; rw [decide_eq_false h]; rfl
    rw [e]
    clear e
    go_enter Try.func40, Try.ntmps40
    go_wp2
    go_ret
    exact ⟨rfl, rfl⟩
theorem all_prefix {M T : List ByteArray} {t : ByteArray} (h : ¬ t.size ≤ 262154) : logB (M ++ t :: T) = false := by
  cases hb : logB (M ++ t :: T) with
  | false => rfl
  | true => exact absurd (((logB_iff _).1 hb).2 t (by simp)) h
set_option maxHeartbeats 1000000 in
theorem logMayBe_ok (a : Option Addr) (cap : Nat) (L : List ByteArray) (w : World) (hin : TIn w a L) (hsz : TSized L) (hlen : L.length ≤ 9223372036854775807) :
    Calls Try.prog 27 #[.slice a L.length cap] w fun e w' => e = .returned (.bool (logB L)) ∧ w' = w := by
  have HIN : Hid (TIn w a L) := hin
  have HSZ : Hid (TSized L) := hsz
  obtain ⟨rb, hrb⟩ : ∃ rb, logB L = rb := ⟨_, rfl⟩
  have HRB : Hid (logB L = rb) := hrb
  rw [hrb]
  obtain ⟨len, hl⟩ : ∃ len, L.length = len := ⟨_, rfl⟩
  rw [hl] at hlen ⊢
  have HL : Hid (L.length = len) := hl
  clear hin hsz hl hrb
  by_cases h : len ≤ 4096
  · have hi : ¬ (4096 : Int) < (len : Int) := by omega
    go_enter Try.func27, Try.ntmps27
    go_wp2
    go_loopw [10] (fun i wr => ∃ (M T : List ByteArray), i = .int .i64 (M.length : Nat) ∧ wr = w ∧ L = M ++ T ∧ ∀ t ∈ M, t.size ≤ 262154) (fun i _ => len - (intOf i).toNat)
    case atStart => exact ⟨[], L, rfl, rfl, rfl, fun t ht => by cases ht⟩
    case round =>
      obtain ⟨M, T, rfl, hwr, hT, hall⟩ := hrel
      obtain rfl := hwr.symm
      have HALL : Hid (∀ t ∈ M, t.size ≤ 262154) := hall
      have HT : Hid (L = M ++ T) := hT
      clear hall hT
      cases T with
      | nil =>
        have hM : L = M := by rw [HT.out, List.append_nil]
        have hML : M.length = len := by have := HL.out; rw [hM] at this; exact this
        have hv : rb = true := by rw [← HRB.out, hM]; exact (logB_iff _).2 ⟨by omega, HALL.out⟩
        have HV : Hid (rb = true) := hv
        clear hM hv
        go_wp2
        go_ret
        exact ⟨by rw [HV.out]; rfl, rfl⟩
      | cons t T =>
        have hlt : M.length < len := by have := HL.out; rw [HT.out] at this; simp at this; omega
        have hts := HSZ.out t (by rw [HT.out]; simp)
        obtain ⟨sb, so, rfl, hsb, c0⟩ := HIN.out M.length t (by rw [HT.out]; simp)
        by_cases ht : t.size ≤ 262154
        · have hti : ¬ (262154 : Int) < (t.size : Int) := by omega
          have HALL' : Hid (∀ y ∈ M ++ [t], y.size ≤ 262154) := fun y hy => by
            rcases List.mem_append.1 hy with hy | hy
            · exact HALL.out y hy
            · simp at hy; subst hy; exact ht
          go_wp2
          go_roundw
          case rel => exact ⟨M ++ [t], T, by simp, (by first | rfl | trivial), by rw [HT.out]; simp, HALL'.out⟩
          case measure => simp [intOf]; omega
        · have HV : Hid (rb = false) := by rw [← HRB.out, HT.out]; exact all_prefix ht
          have hti : (262154 : Int) < (t.size : Int) := by omega
          go_wp2
          go_ret
          exact ⟨by rw [HV.out]; rfl, rfl⟩
  · have HV : Hid (rb = false) := by
      rw [← HRB.out]
      cases hb : logB L with
      | false => rfl
      | true => exact absurd (((logB_iff _).1 hb).1) (by rw [HL.out]; exact h)
    have hi : (4096 : Int) < (len : Int) := by omega
    go_enter Try.func27, Try.ntmps27
    go_wp2
    go_ret
    exact ⟨by rw [HV.out]; rfl, rfl⟩
end Go.Proofs.Ytalpbnkmppdgdaa
namespace Go.Proofs.Ytalpbnkmppdgdaa
open Go.RowKit
set_option linter.unusedVariables false

theorem bodyF_append (M T : List Rec) (i : Int) : bodyF (M ++ T) i = (bodyF M i && bodyF T (i + M.length)) := by
  induction M generalizing i with
  | nil => simp [bodyF]
  | cons r M ih =>
    simp only [List.cons_append, bodyF, ih, List.length_cons]
    rw [show i + 1 + (M.length : Int) = i + ((M.length + 1 : Nat) : Int) by push_cast; omega]
    simp [Bool.and_assoc]
theorem bodyB_len {L : List Rec} (h : ¬ L.length ≤ 256) : bodyB L = false := by unfold bodyB; rw [decide_eq_false h]; rfl
theorem bodyB_bad {M T : List Rec} {r : Rec} (h : (decide (r.off = (M.length : Int)) && mayB r) = false) : bodyB (M ++ r :: T) = false := by
  unfold bodyB
  rw [bodyF_append]
  simp only [bodyF, Int.zero_add, h, Bool.false_and, Bool.and_false]
theorem bodyB_good {M : List Rec} (h : bodyF M 0 = true) (hl : M.length ≤ 256) : bodyB M = true := by unfold bodyB; rw [decide_eq_true hl, h]; rfl
theorem bodyF_snoc {M : List Rec} {r : Rec} (h : bodyF M 0 = true) (h1 : r.off = (M.length : Int)) (h2 : mayB r = true) : bodyF (M ++ [r]) 0 = true := by
  rw [bodyF_append, h]
  simp [bodyF, h1, h2]
set_option maxHeartbeats 2000000 in
theorem bodyMayBe_ok (a : Option Addr) (cap : Nat) (L : List Rec) (w : World) (hin : RIn w a L) (hsz : Sized L) (hlen : L.length ≤ 9223372036854775807) :
    Calls Try.prog 28 #[.slice a L.length cap] w fun e w' => e = .returned (.bool (bodyB L)) ∧ Below w.heap.size w w' := by
  have HIN : Hid (RIn w a L) := hin
  have HSZ : Hid (Sized L) := hsz
  obtain ⟨rv, hrb⟩ : ∃ rb, bodyB L = rb := ⟨_, rfl⟩
  have HRV : Hid (bodyB L = rv) := hrb
  rw [hrb]
  obtain ⟨len, hl⟩ : ∃ len, L.length = len := ⟨_, rfl⟩
  rw [hl] at hlen ⊢
  have HL : Hid (L.length = len) := hl
  clear hin hsz hl hrb
  by_cases h : len ≤ 256
  · have hi : ¬ (256 : Int) < (len : Int) := by omega
    go_enter Try.func28, Try.ntmps28
    go_wp2
    go_loopw [10] (fun i wr => ∃ (M T : List Rec), i = .int .i64 (M.length : Nat) ∧ L = M ++ T ∧ bodyF M 0 = true ∧ Below w.heap.size w wr) (fun i _ => len - (intOf i).toNat)
    case atStart => exact ⟨[], L, rfl, rfl, rfl, Below.refl _ _⟩
    case round =>
      obtain ⟨M, T, rfl, hT, hall, hbel⟩ := hrel
      have HALL : Hid (bodyF M 0 = true) := hall
      have HT : Hid (L = M ++ T) := hT
      have HBE : Hid (Below w.heap.size w wr) := hbel
      have hsw := hbel.size
      clear hall hT hbel
      cases T with
      | nil =>
        have hM : L = M := by rw [HT.out, List.append_nil]
        have hML : M.length = len := by have := HL.out; rw [hM] at this; exact this
        have hv : rv = true := by rw [← HRV.out, hM]; exact bodyB_good HALL.out (by omega)
        have HV : Hid (rv = true) := hv
        clear hM hv
        go_wp2
        go_ret
        exact ⟨by rw [HV.out]; rfl, HBE.out⟩
      | cons r T =>
        have hlt : M.length < len := by have := HL.out; rw [HT.out] at this; simp at this; omega
        obtain ⟨hrk, hrv⟩ := HSZ.out r (by rw [HT.out]; simp)
        obtain ⟨sb, so, rfl, hsb, c0, c1, c2, c3⟩ := (HIN.out.below HBE.out (Nat.le_refl _)) M.length r (by rw [HT.out]; simp)
        obtain ⟨off, key, val, gone⟩ := r
        simp only at c0 c1 c2 c3 hrk hrv
        have HC : Hid (∀ W, Calls Try.prog 41 #[.agg #[.int .i64 off, .string key, .string val, .bool gone]] W fun e w' => e = .returned (.int .i64 (errN (mayB ⟨off, key, val, gone⟩))) ∧ Below W.heap.size W w') := fun W => check_ok off key val gone W hrk hrv
        have HBA : Hid (Below w.heap.size w (wr.alloc (.cells #[.int .i64 off, .string key, .string val, .bool gone] 56))) := HBE.out.trans (((Below.refl _ _).alloc (Nat.le_refl _) _).mono hsw)
        have HRB : Hid (RB (wr.alloc (.cells #[.int .i64 off, .string key, .string val, .bool gone] 56)) wr.heap.size off key val gone) := heap_alloc_new _ _
        obtain ⟨rb, hrb⟩ : ∃ rb, wr.heap.size = rb := ⟨_, rfl⟩
        rw [hrb] at HRB
        generalize hWA : (wr.alloc (.cells #[.int .i64 off, .string key, .string val, .bool gone] 56)) = wA at HRB HBA
        go_upto_region 6 with fail
        clear hWA
        obtain ⟨d0, d1, d2, d3⟩ := HRB.out.cells
        have h0 : errN true = 0 := rfl
        have h1 : errN false = 90 := rfl
        by_cases ho : off = (M.length : Int)
        · have hne : ((off : Int) != (M.length : Int)) = false := by simp [ho]
          by_cases hm : mayB ⟨off, key, val, gone⟩ = true
          · rw [hm, h0] at HC
            have HN : Hid (bodyF (M ++ [⟨off, key, val, gone⟩]) 0 = true) := bodyF_snoc HALL.out ho hm
            clear ho hm h0 h1
            go_wp2_with fail
            refine (HC.out _).mono ?_
            rintro e w1 ⟨rfl, hb1⟩
            have HB1 : Hid (Below w.heap.size w w1) := HBA.out.trans (hb1.mono HBA.out.size)
            clear hb1 d0 d1 d2 d3
            go_wp2
            go_roundw
            case rel => exact ⟨M ++ [⟨off, key, val, gone⟩], T, by simp, by rw [HT.out]; simp, HN.out, HB1.out⟩
            case measure => simp [intOf]; omega
          · have hm' : mayB ⟨off, key, val, gone⟩ = false := by simpa using hm
            rw [hm', h1] at HC
            have HV : Hid (rv = false) := by rw [← HRV.out, HT.out]; exact bodyB_bad (by simp only [hm', Bool.and_false])
            clear ho hm hm' h0 h1
            go_wp2_with fail
            refine (HC.out _).mono ?_
            rintro e w1 ⟨rfl, hb1⟩
            have HB1 : Hid (Below w.heap.size w w1) := HBA.out.trans (hb1.mono HBA.out.size)
            clear hb1 d0 d1 d2 d3
            go_wp2
            go_ret
            exact ⟨by rw [HV.out]; rfl, HB1.out⟩
        · have hne : ((off : Int) != (M.length : Int)) = true := by simp [ho]
          have HV : Hid (rv = false) := by rw [← HRV.out, HT.out]; exact bodyB_bad (by simp only [decide_eq_false ho, Bool.false_and])
          clear ho h0 h1
          go_wp2
          go_ret
          exact ⟨by rw [HV.out]; rfl, HBA.out⟩
  · have HV : Hid (rv = false) := by rw [← HRV.out]; exact bodyB_len (by rw [HL.out]; exact h)
    have hi : (256 : Int) < (len : Int) := by omega
    go_enter Try.func28, Try.ntmps28
    go_wp2
    go_ret
    exact ⟨by rw [HV.out]; rfl, Below.refl _ _⟩
end Go.Proofs.Ytalpbnkmppdgdaa
