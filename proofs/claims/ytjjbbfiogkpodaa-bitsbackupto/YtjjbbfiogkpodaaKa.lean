/- What was written is read as it was: plain mathematics, and the list of calls that were done, in memory. -/
import Derived.Test.YtjjbbfiogkpodaaTb
namespace Go.Proofs.Ytjjbbfiogkpodaa
open Go.RowKit
set_option linter.unusedVariables false

/-- A call that was done. -/
structure DOp where
  k : Int
  x : Int
  n : Int
  t : ByteArray
/-- The bits behind a call. -/
def dstep (L : List Nat) (o : DOp) : List Nat := if o.k = 1 then L ++ bitsOf o.x.toNat o.n.toNat else if o.k = 2 then padded L else L ++ textBits o.t
def dok (L : List Nat) (o : DOp) : Prop :=
  (o.k = 1 ∧ (∃ X N : Nat, o.x = X ∧ o.n = N ∧ N ≤ 57 ∧ X < 2 ^ N)) ∨ o.k = 2 ∨ (o.k = 3 ∧ L.length % 8 = 0)
def drun (D : List DOp) : List Nat := D.foldl dstep []
theorem drun_snoc (D : List DOp) (o : DOp) : drun (D ++ [o]) = dstep (drun D) o := by simp [drun]
def dall (D : List DOp) : Prop := ∀ i, (h : i < D.length) → dok (drun (D.take i)) D[i]
theorem dall_snoc {D : List DOp} {o : DOp} (h : dall D) (ho : dok (drun D) o) : dall (D ++ [o]) := by
  intro i hi
  by_cases hl : i < D.length
  · rw [List.getElem_append_left hl, List.take_append_of_le_length (by omega)]
    exact h i hl
  · have e : i = D.length := by simp at hi; omega
    subst e
    rw [List.getElem_append_right (Nat.le_refl _), List.take_left]
    simpa using ho
theorem dstep_prefix (L : List Nat) (o : DOp) : ∃ r, dstep L o = L ++ r := by
  unfold dstep
  split
  · exact ⟨_, rfl⟩
  split
  · exact ⟨_, rfl⟩
  · exact ⟨_, rfl⟩
theorem drun_take_succ (D : List DOp) (i : Nat) (h : i < D.length) : drun (D.take (i + 1)) = dstep (drun (D.take i)) D[i] := by
  rw [List.take_succ_eq_append_getElem h, drun_snoc]
theorem drun_prefix (D : List DOp) (i : Nat) : ∃ r, drun D = drun (D.take i) ++ r := by
  have key : ∀ m, i + m ≤ D.length → ∃ r, drun (D.take (i + m)) = drun (D.take i) ++ r := by
    intro m
    induction m with
    | zero => intro _; exact ⟨[], by simp⟩
    | succ m ih =>
      intro hm
      obtain ⟨r, hr⟩ := ih (by omega)
      obtain ⟨r2, hr2⟩ := dstep_prefix (drun (D.take (i + m))) (D[i + m]'(by omega))
      exact ⟨r ++ r2, by rw [← Nat.add_assoc, drun_take_succ D (i + m) (by omega), hr2, hr, List.append_assoc]⟩
  by_cases h : i ≤ D.length
  · obtain ⟨r, hr⟩ := key (D.length - i) (by omega)
    rw [show i + (D.length - i) = D.length by omega, List.take_length] at hr
    exact ⟨r, hr⟩
  · exact ⟨[], by rw [List.take_of_length_le (by omega)]; simp⟩
theorem getD_mid (M T R : List Nat) (i : Nat) (h : i < T.length) : (M ++ T ++ R).getD (M.length + i) 0 = T.getD i 0 := by
  rw [List.getD_eq_getElem?_getD, List.getD_eq_getElem?_getD, List.append_assoc, List.getElem?_append_right (by omega), Nat.add_sub_cancel_left, List.getElem?_append_left h]
/-- Bits that stand between others are read as the number. -/
theorem read_bits (M R : List Nat) (X N : Nat) (h01 : Bits01 (M ++ bitsOf X N ++ R)) (hX : X < 2 ^ N) : num (toBA (pack (M ++ bitsOf X N ++ R))) M.length N = X := by
  rw [num_pack h01 M.length N (by simp [bitsOf_length] <;> omega)]
  have e : bsum (fun i => (M ++ bitsOf X N ++ R).getD (M.length + i) 0) N = bsum (fun i => X / 2 ^ i % 2) N :=
    bsum_congr (fun i hi => by rw [getD_mid M _ R i (by rw [bitsOf_length]; exact hi), bitsOf_getD X N i hi])
  rw [e, bsum_bits X N hX]
theorem toBA_pack_size (L : List Nat) : (toBA (pack L)).size = (L.length + 7) / 8 := by
  show (((pack L).map UInt8.ofNat).toArray).size = _
  simp [pack_length]
theorem toBA_data (l : List Nat) : (toBA l).data.toList = l.map UInt8.ofNat := rfl
/-- Bytes that stand between others are read as the text. -/
theorem read_bytes (M R : List Nat) (t : ByteArray) (h8 : M.length % 8 = 0) : (toBA (pack (M ++ textBits t ++ R))).extract (M.length / 8) (M.length / 8 + t.size) = t := by
  have hl := textBits_length t
  have hts : t.data.toList.length = t.size := by simp
  apply ByteArray.ext
  apply Array.ext'
  rw [ByteArray.data_extract, Array.toList_extract]
  refine List.ext_getElem? (fun j => ?_)
  rw [toBA_data]
  by_cases hj : j < t.size
  · simp only [List.extract_eq_take_drop]
    rw [List.getElem?_take_of_lt (by omega), List.getElem?_drop, List.getElem?_map, pack_get _ _ (by simp [hl]; omega), byteOf_left _ _ _ (by simp [hl]; omega), byteOf_text M t j h8 hj, List.getElem?_eq_getElem (by omega), List.getD_eq_getElem?_getD, List.getElem?_eq_getElem (by omega)]
    simp
  · rw [List.getElem?_eq_none (l := t.data.toList) (by omega), List.getElem?_eq_none]
    simp only [List.extract_eq_take_drop, List.length_take]
    omega
theorem back_bits (D : List DOp) (q : Nat) (h : q < D.length) {X N : Nat} (hk : D[q].k = 1) (hx : D[q].x = X) (hn : D[q].n = N) (hX : X < 2 ^ N) (h01 : Bits01 (drun D)) :
    num (toBA (pack (drun D))) (drun (D.take q)).length N = X ∧ (drun (D.take q)).length + N ≤ 8 * (toBA (pack (drun D))).size ∧ (drun (D.take (q + 1))).length = (drun (D.take q)).length + N := by
  obtain ⟨R, hR⟩ := drun_prefix D (q + 1)
  have e : drun (D.take (q + 1)) = drun (D.take q) ++ bitsOf X N := by
    rw [drun_take_succ D q h]; unfold dstep; rw [if_pos hk, hx, hn]; simp
  rw [e] at hR
  refine ⟨?_, ?_, by rw [e, List.length_append, bitsOf_length]⟩
  · rw [hR] at h01 ⊢; exact read_bits _ R X N h01 hX
  · rw [toBA_pack_size, hR]; simp [bitsOf_length]; omega
theorem back_align (D : List DOp) (q : Nat) (h : q < D.length) (hk : D[q].k = 2) :
    (drun (D.take q)).length ≤ 8 * (toBA (pack (drun D))).size ∧ (drun (D.take (q + 1))).length = ((drun (D.take q)).length + 7) / 8 * 8 := by
  obtain ⟨R, hR⟩ := drun_prefix D q
  have e : drun (D.take (q + 1)) = padded (drun (D.take q)) := by
    rw [drun_take_succ D q h]; unfold dstep; rw [if_neg (by rw [hk]; decide), if_pos hk]
  refine ⟨?_, by rw [e, padded_length]⟩
  rw [toBA_pack_size, hR]; simp; omega
theorem back_bytes (D : List DOp) (q : Nat) (h : q < D.length) (hk : D[q].k = 3) (h8 : (drun (D.take q)).length % 8 = 0) :
    (toBA (pack (drun D))).extract ((drun (D.take q)).length / 8) ((drun (D.take q)).length / 8 + D[q].t.size) = D[q].t ∧ (drun (D.take q)).length / 8 + D[q].t.size ≤ (toBA (pack (drun D))).size ∧ (drun (D.take q)).length ≤ 8 * (toBA (pack (drun D))).size ∧
      (drun (D.take (q + 1))).length = (drun (D.take q)).length + 8 * D[q].t.size := by
  obtain ⟨R, hR⟩ := drun_prefix D (q + 1)
  have e : drun (D.take (q + 1)) = drun (D.take q) ++ textBits D[q].t := by
    rw [drun_take_succ D q h]; unfold dstep; rw [if_neg (by rw [hk]; decide), if_neg (by rw [hk]; decide)]
  rw [e] at hR
  refine ⟨?_, ?_, ?_, by rw [e, List.length_append, textBits_length]⟩
  · rw [hR]; exact read_bytes _ R _ h8
  · rw [toBA_pack_size, hR]; simp [textBits_length]; omega
  · rw [toBA_pack_size, hR]; simp [textBits_length]; omega
/-- The cells of calls that were done. -/
def dcells (D : List DOp) : List Value := D.flatMap fun o => [.int .i64 o.k, .int .i64 o.x, .int .i64 o.n, .string o.t]
theorem dcells_length (D : List DOp) : (dcells D).length = D.length * 4 := by
  induction D with
  | nil => rfl
  | cons a r ih => simp [dcells] at ih ⊢; omega
theorem dcells_snoc (D : List DOp) (o : DOp) : dcells D ++ [Value.int .i64 o.k, .int .i64 o.x, .int .i64 o.n, .string o.t] = dcells (D ++ [o]) := by simp [dcells]
theorem dcells_get (D : List DOp) (i j : Nat) (h : i < D.length) (hj : j < 4) : (dcells D)[i * 4 + j]? = [Value.int .i64 D[i].k, .int .i64 D[i].x, .int .i64 D[i].n, .string D[i].t][j]? := by
  induction D generalizing i with
  | nil => simp at h
  | cons a r ih =>
    have e : dcells (a :: r) = [Value.int .i64 a.k, .int .i64 a.x, .int .i64 a.n, .string a.t] ++ dcells r := by simp [dcells]
    rw [e]
    cases i with
    | zero => rw [Nat.zero_mul, Nat.zero_add, List.getElem?_append_left (by simpa using hj)]; rfl
    | succ i =>
      rw [List.getElem?_append_right (by simp; omega)]
      have := ih i (by simpa using h)
      simp only [List.length_cons, List.length_nil]
      rw [show (i + 1) * 4 + j - (0 + 1 + 1 + 1 + 1) = i * 4 + j by omega, this]
      rfl
theorem Try.infoOp : (Try.prog.info? 28).map (fun i => (i.zero, i.size, i.bytes)) = some (some (.agg #[.int .i64 0, .int .i64 0, .int .i64 0, .string ⟨#[]⟩]), 4, 40) := by kernel_rfl
/-- A row of another type than bytes or writers grows: a writer is as it was. -/
theorem WS.frE {E : TypeId} {w w' : World} {B B2 b bx : Nat} {L : List Nat} (h : WS w B b L) (hE : E ≠ 5) (hE2 : E ≠ 59) (hf : Fr E B2 bx w w') (hbx : w.heap.size ≤ bx) : WS w' B b L := by
  obtain ⟨v, hb, _⟩ := id h
  refine h.kept (hf.block b h.lt (by have := h.lt; omega) (.inr (fun cur m => ?_))) (fun g cur hg => hf.block g (lt_of_block hg) (by have := lt_of_block hg; omega) (.inr (fun cur' m => ?_)))
  · rw [hb]; intro e; cases e; exact hE2 rfl
  · rw [hg]; intro e; cases e; exact hE rfl
/-- The slice of calls that were done. -/
def DS (w : World) (B : Nat) (v : Value) (D : List DOp) : Prop := w.ownsRow B 28 4 v D.length (dcells D)
theorem DS.fr {w w' : World} {B B2 b : Nat} {v : Value} {D : List DOp} {M : List Nat} (h : DS w B v D) (hw : WS w B2 b M) (hf : Fr 5 B2 b w w') : DS w' B v D := by
  obtain ⟨v2, hb2, _⟩ := hw
  refine ownsRow_kept h (fun g cur hg => hf.block g (lt_of_block hg) ?_ (.inr (fun cur' m => ?_)))
  · rintro rfl; rw [hb2] at hg; cases hg
  · rw [hg]; intro e; cases e
theorem DS.below {w w' : World} {B : Nat} {v : Value} {D : List DOp} (h : DS w B v D) (hb : Below w.heap.size w w') : DS w' B v D :=
  ownsRow_kept h (fun g cur hg => hb.block g (lt_of_block hg))
theorem DS.reader {w w' : World} {B b p : Nat} {s : ByteArray} {v : Value} {D : List DOp} (h : DS w B v D) (hr : RS w b s p) (hf : Only b w w') : DS w' B v D := by
  refine ownsRow_kept h (fun g cur hg => hf.block g (lt_of_block hg) ?_)
  rintro rfl
  unfold RS at hr
  rw [hr] at hg; cases hg
theorem WS.reader {w w' : World} {B b2 b p : Nat} {s : ByteArray} {L : List Nat} (h : WS w B b2 L) (hr : RS w b s p) (hf : Only b w w') : WS w' B b2 L := by
  obtain ⟨v, hb, _⟩ := id h
  unfold RS at hr
  refine h.kept (hf.block b2 h.lt ?_) (fun g cur hg => hf.block g (lt_of_block hg) ?_)
  · rintro rfl; rw [hr] at hb; cases hb
  · rintro rfl; rw [hr] at hg; cases hg
theorem gain_len (ft : Nat → ByteArray) (j : Nat) : 57 * j ≤ gain ft j := by
  induction j with
  | zero => simp
  | succ j ih => simp only [gain]; omega
/-- What the first loop keeps. -/
structure BRel (w wr : World) (D : List DOp) (v : Value) (ft : Nat → ByteArray) (j : Nat) : Prop where
  own : DS wr w.heap.size v D
  ws : WS wr w.heap.size w.heap.size (drun D)
  ok : dall D
  bel : Below w.heap.size w wr
  len : (drun D).length ≤ gain ft j
  dlen : D.length ≤ j
theorem BRel.next {w wr w1 : World} {D : List DOp} {v : Value} {ft : Nat → ByteArray} {j : Nat} (h : BRel w wr D v ft j) (hb : Below wr.heap.size wr w1) : BRel w w1 D v ft (j + 1) :=
  ⟨h.own.below hb, h.ws.below hb, h.ok, h.bel.trans (hb.mono h.bel.size), by have := h.len; simp only [gain]; omega, by have := h.dlen; omega⟩
/-- A call was done, and is put behind the others. -/
theorem BRel.done {w wr w1 w2 w3 : World} {D : List DOp} {v : Value} {ft : Nat → ByteArray} {j g cap : Nat} {o : Obj} (h : BRel w wr D v ft j) (y : DOp) (hy : dok (drun D) y) (hal : Below wr.heap.size wr w1) (hws : WS w2 w.heap.size w.heap.size (dstep (drun D) y)) (hf : Fr 5 w.heap.size w.heap.size w1 w2)
    (hlen : (dstep (drun D) y).length ≤ (drun D).length + 57 + 8 * (ft j).size)
    (ho : w3.ownsRow w.heap.size 28 4 (.slice (some ⟨g, 0, none⟩) (D.length + 1) cap) (D.length + 1) (dcells D ++ [Value.int .i64 y.k, .int .i64 y.x, .int .i64 y.n, .string y.t]))
    (hg : (w2.alloc o).grownBy w3 v.ownBlock) : BRel w w3 (D ++ [y]) (.slice (some ⟨g, 0, none⟩) (D.length + 1) cap) ft (j + 1) := by
  have hws1 := h.ws.below hal
  have hb1 : Below w.heap.size w w1 := h.bel.trans (hal.mono h.bel.size)
  have hD2 : DS w2 w.heap.size v D := (h.own.below hal).fr hws1 hf
  have hb2 : Below w.heap.size w w2 := hb1.trans (hf.below (Nat.le_refl _) hb1.size)
  have hfr : Fr 28 w.heap.size w2.heap.size w2 w3 := Fr.appended hD2 hg
  refine ⟨?_, ?_, dall_snoc h.ok hy, hb2.trans (hfr.below hb2.size hb2.size), ?_, by simp; exact h.dlen⟩
  · unfold DS; rw [← dcells_snoc, List.length_append]; exact ho
  · rw [drun_snoc]; exact hws.frE (by decide) (by decide) hfr (Nat.le_refl _)
  · rw [drun_snoc]; have := h.len; simp only [gain]; omega
end Go.Proofs.Ytjjbbfiogkpodaa
