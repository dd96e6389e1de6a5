/- HuffWrites: how the writing stands, and what each step keeps. -/
import Derived.Test.YtklipommocijaaaUi
import Derived.Test.YtklipommocijaaaUf
import Derived.Test.YtklipommocijaaaGw
import Derived.Test.YtklipommocijaaaGr
namespace Go.Proofs.Ytklipommocijaaa
open Go.RowKit
set_option linter.unusedVariables false

/-- The words of symbols, one behind the other. -/
def wordsOf (ns : List Nat) (D : List Nat) : List Nat := D.flatMap fun x => wbitsOf (cw ns x) (ns.getD x 0)
theorem wordsOf_snoc (ns D : List Nat) (x : Nat) : wordsOf ns (D ++ [x]) = wordsOf ns D ++ wbitsOf (cw ns x) (ns.getD x 0) := by simp [wordsOf]
theorem wordsOf_01 (ns : List Nat) : ∀ D, Bits01 (wordsOf ns D)
  | [] => by intro x hx; simp [wordsOf] at hx
  | x :: D => by
    show Bits01 (wbitsOf (cw ns x) (ns.getD x 0) ++ wordsOf ns D)
    exact (wbitsOf_01 _ _).append (wordsOf_01 ns D)
theorem wordsOf_len {ns : List Nat} (h : ∀ i, ns.getD i 0 ≤ 15) : ∀ D, (wordsOf ns D).length ≤ 15 * D.length
  | [] => by simp [wordsOf]
  | x :: D => by
    show (wbitsOf (cw ns x) (ns.getD x 0) ++ wordsOf ns D).length ≤ _
    have := wordsOf_len h D
    have := h x
    rw [List.length_append, wbitsOf_length, List.length_cons]; omega

structure WrSt (w wr : World) (B b lo hi t Lw N : Nat) (ns : List Nat) (R : Nat → Value) (va vd : Value) (L M D : List Nat) : Prop where
  tab : Tab wr lo hi t ns R
  top : hi ≤ B
  ws : WS wr B b L
  all : IS wr B va M
  done : IS wr B vd D
  ne : ∀ g, va.ownBlock = some g → vd.ownBlock ≠ some g
  words : LB wr Lw N (cw ns)
  lw : Lw < B
  bel : Below w.heap.size w wr
  b0 : w.heap.size ≤ b
  bB : b < B
  bn : b < lo ∨ hi ≤ b
  size : B ≤ wr.heap.size
theorem WrSt.lwb {w wr : World} {B b lo hi t Lw N : Nat} {ns : List Nat} {R : Nat → Value} {va vd : Value} {L M D : List Nat} (h : WrSt w wr B b lo hi t Lw N ns R va vd L M D) : Lw ≠ b := by
  intro e
  have h1 := h.words
  obtain ⟨v, h2, _⟩ := h.ws
  unfold LB at h1
  rw [e, h2] at h1
  simp at h1
theorem WrSt.keep {w wr W : World} {B b lo hi t Lw N : Nat} {ns : List Nat} {R : Nat → Value} {va vd va' vd' : Value} {L M D L' M' D' : List Nat} (h : WrSt w wr B b lo hi t Lw N ns R va vd L M D) (ho : W.os = wr.os) (ht : W.tape = wr.tape) (hu : W.output = wr.output) (hs : wr.heap.size ≤ W.heap.size)
    (hk : ∀ k, k < B → k ≠ b → W.heap[k]? = wr.heap[k]?) (hws : WS W B b L') (ha : IS W B va' M') (hd : IS W B vd' D') (hne : ∀ g, va'.ownBlock = some g → vd'.ownBlock ≠ some g) : WrSt w W B b lo hi t Lw N ns R va' vd' L' M' D' := by
  have h1 := h.b0
  have h2 := h.bB
  refine ⟨h.tab.keep (fun k h3 h4 => hk k (by have := h.top; omega) (by have := h.bn; omega)), h.top, hws, ha, hd, hne, ?_, h.lw, ⟨ho.trans h.bel.os, ht.trans h.bel.tape, hu.trans h.bel.output, Nat.le_trans h.bel.size hs, fun k hkk => by rw [hk k (by omega) (by omega)]; exact h.bel.block k hkk⟩, h.b0, h.bB, h.bn, Nat.le_trans h.size hs⟩
  unfold LB
  rw [hk Lw h.lw h.lwb]; exact h.words
theorem WrSt.below {w wr W : World} {B b lo hi t Lw N : Nat} {ns : List Nat} {R : Nat → Value} {va vd : Value} {L M D : List Nat} (h : WrSt w wr B b lo hi t Lw N ns R va vd L M D) (hb : Below wr.heap.size wr W) : WrSt w W B b lo hi t Lw N ns R va vd L M D :=
  h.keep hb.os hb.tape hb.output hb.size (fun k hk _ => hb.block k (by have := h.size; omega)) (h.ws.below hb) (h.all.below hb) (h.done.below hb) h.ne
theorem WrSt.drewN {w wr : World} {B b lo hi t Lw N : Nat} {ns : List Nat} {R : Nat → Value} {va vd : Value} {L M D : List Nat} (h : WrSt w wr B b lo hi t Lw N ns R va vd L M D) (k : Nat) : WrSt w (wr.drewN k) B b lo hi t Lw N ns R va vd L M D :=
  h.below ⟨rfl, rfl, rfl, Nat.le_refl _, fun _ _ => rfl⟩
/-- A call of the writer. -/
theorem WrSt.wrote {w wr W : World} {B b lo hi t Lw N k : Nat} {ns : List Nat} {R : Nat → Value} {va vd : Value} {L M D L' : List Nat} (h : WrSt w wr B b lo hi t Lw N ns R va vd L M D) (hws : WS W B b L') (hf : Fr 5 B b (wr.drewN k) W) : WrSt w W B b lo hi t Lw N ns R va vd L' M D := by
  have h2 := h.drewN k
  exact h2.keep hf.os hf.tape hf.output hf.size (fun i hi hib => hf.block i (by have := h2.size; omega) hib (.inl hi)) hws (h2.all.fr h2.ws hf) (h2.done.fr h2.ws hf) h2.ne
theorem own_int {w : World} {B n : Nat} {v : Value} {xs : List Value} (h : w.ownsRow B 3 1 v n xs) : ∀ g, v.ownBlock = some g → B ≤ g ∧ ∃ cur, w.heap[g]? = some (.cells cur 3 (0, 0)) := by
  intro g hg
  rcases h.2 with ⟨e, _⟩ | ⟨g', cap, cur, e, h1, h2, _⟩
  · rw [e] at hg; simp [Value.ownBlock] at hg
  · rw [e] at hg
    simp [Value.ownBlock] at hg
    subst hg
    exact ⟨h1, cur, h2⟩
/-- An append to the bits. -/
theorem WrSt.grewA {w wr W : World} {B b lo hi t Lw N g cap m : Nat} {ns : List Nat} {R : Nat → Value} {va vd : Value} {L M D : List Nat} {xs : List Nat} (h : WrSt w wr B b lo hi t Lw N ns R va vd L M D) (hm : m = M.length + xs.length)
    (hown : W.ownsRow B 3 1 (.slice (some ⟨g, 0, none⟩) m cap) m (icells M ++ icells xs)) (hg : wr.grownBy W va.ownBlock) (hat : va.ownBlock = some g ∨ g = wr.heap.size) : WrSt w W B b lo hi t Lw N ns R (.slice (some ⟨g, 0, none⟩) m cap) vd L (M ++ xs) D := by
  have hbn : va.ownBlock ≠ some b := fun e => by
    obtain ⟨_, cur, h1⟩ := own_int h.all b e
    obtain ⟨v, h2, _⟩ := h.ws
    rw [h2] at h1; simp at h1
  refine h.keep hg.os hg.tape hg.output hg.size (fun k hk hkb => hg.block k (by have := h.size; omega) (fun e => ?_)) ?_ ?_ ?_ ?_
  · have := (own_int h.all k e.symm).1; omega
  · refine h.ws.kept (hg.block b (by have := h.bB; have := h.size; omega) (fun e => hbn e.symm)) (fun g' cur h1 => hg.block g' (lt_heap h1) (fun e => ?_))
    obtain ⟨_, cur2, h2⟩ := own_int h.all g' e.symm
    rw [h2] at h1; simp at h1
  · unfold IS
    have e : icells (M ++ xs) = icells M ++ icells xs := by simp [icells]
    rw [e, List.length_append, ← hm]; exact hown
  · exact World.ownsRow.kept h.done hg (by
      cases e : vd.ownBlock with
      | none => exact .inl rfl
      | some k => exact .inr (fun e2 => h.ne k e2.symm e))
  · intro k hk
    simp only [Value.ownBlock, Option.some.injEq] at hk
    subst hk
    rcases hat with e | e
    · exact h.ne _ e
    · intro e2
      obtain ⟨cur, h2⟩ := (own_int h.done _ e2).2
      have := lt_heap h2
      omega
/-- An append to the symbols. -/
theorem WrSt.grewD {w wr W : World} {B b lo hi t Lw N g cap m x : Nat} {ns : List Nat} {R : Nat → Value} {va vd : Value} {L M D : List Nat} (h : WrSt w wr B b lo hi t Lw N ns R va vd L M D) (hm : m = D.length + 1)
    (hown : W.ownsRow B 3 1 (.slice (some ⟨g, 0, none⟩) m cap) m (icells D ++ [.int .i64 (x : Nat)])) (hg : wr.grownBy W vd.ownBlock) (hat : vd.ownBlock = some g ∨ g = wr.heap.size) : WrSt w W B b lo hi t Lw N ns R va (.slice (some ⟨g, 0, none⟩) m cap) L M (D ++ [x]) := by
  have hbn : vd.ownBlock ≠ some b := fun e => by
    obtain ⟨_, cur, h1⟩ := own_int h.done b e
    obtain ⟨v, h2, _⟩ := h.ws
    rw [h2] at h1; simp at h1
  refine h.keep hg.os hg.tape hg.output hg.size (fun k hk hkb => hg.block k (by have := h.size; omega) (fun e => ?_)) ?_ ?_ ?_ ?_
  · have := (own_int h.done k e.symm).1; omega
  · refine h.ws.kept (hg.block b (by have := h.bB; have := h.size; omega) (fun e => hbn e.symm)) (fun g' cur h1 => hg.block g' (lt_heap h1) (fun e => ?_))
    obtain ⟨_, cur2, h2⟩ := own_int h.done g' e.symm
    rw [h2] at h1; simp at h1
  · exact World.ownsRow.kept h.all hg (by
      cases e : va.ownBlock with
      | none => exact .inl rfl
      | some k => exact .inr (fun e2 => h.ne k e e2.symm))
  · unfold IS
    rw [← icells_snoc, List.length_append, show D.length + [x].length = m by rw [hm]; rfl]; exact hown
  · intro k hk e2
    simp only [Value.ownBlock, Option.some.injEq] at e2
    subst e2
    rcases hat with e | e
    · exact h.ne _ hk e
    · obtain ⟨cur, h2⟩ := (own_int h.all _ hk).2
      have := lt_heap h2
      omega
theorem toBA_size (l : List Nat) : (toBA l).size = l.length := by simp [toBA, ByteArray.size]
theorem words_at (ns : List Nat) {D : List Nat} {q : Nat} (hq : q < D.length) : wordsOf ns D = wordsOf ns (D.take q) ++ (wbitsOf (cw ns (D.getD q 0)) (ns.getD (D.getD q 0) 0) ++ wordsOf ns (D.drop (q + 1))) := by
  have h : D = D.take q ++ (D.getD q 0 :: D.drop (q + 1)) := by
    rw [getD_in hq, ← List.drop_eq_getElem_cons hq, List.take_append_drop]
  have h2 : wordsOf ns (D.take q ++ (D.getD q 0 :: D.drop (q + 1))) = wordsOf ns (D.take q) ++ (wbitsOf (cw ns (D.getD q 0)) (ns.getD (D.getD q 0) 0) ++ wordsOf ns (D.drop (q + 1))) := by simp [wordsOf]
  rw [← h2, ← h]
theorem rd_words {ns D : List Nat} {q LL : Nat} (h15 : ∀ i, ns.getD i 0 ≤ 15) (hx : D.getD q 0 < ns.length) (h0 : 0 < ns.getD (D.getD q 0) 0) (hq : q < D.length) (hL : (wordsOf ns D).length = LL) (hfit : cw ns (D.getD q 0) < 2 ^ ns.getD (D.getD q 0) 0) :
    rd ns (toBA (pack (wordsOf ns D))) (wordsOf ns (D.take q)).length = (D.getD q 0, ns.getD (D.getD q 0) 0, 0) ∧ (wordsOf ns (D.take (q + 1))).length = (wordsOf ns (D.take q)).length + ns.getD (D.getD q 0) 0 ∧ (wordsOf ns (D.take (q + 1))).length ≤ LL := by
  have hw := words_at ns hq
  have hlen : (wordsOf ns D).length = (wordsOf ns (D.take q)).length + (ns.getD (D.getD q 0) 0 + (wordsOf ns (D.drop (q + 1))).length) := by rw [hw, List.length_append, List.length_append, wbitsOf_length]
  have ht : (wordsOf ns (D.take (q + 1))).length = (wordsOf ns (D.take q)).length + ns.getD (D.getD q 0) 0 := by
    rw [List.take_succ_eq_append_getElem hq, wordsOf_snoc, List.length_append, wbitsOf_length, getD_in hq]
  have hcw : cw ns (D.getD q 0) = codeW ns (D.getD q 0) := by unfold cw; rw [if_neg (by omega)]
  refine ⟨?_, ht, by omega⟩
  refine rd_word hx rfl h0 (h15 _) ?_ ?_ (by rw [← hcw]; exact hfit)
  · rw [toBA_size, pack_length]; omega
  · intro j hj
    rw [bitAt_pack (wordsOf_01 ns D) _ (by omega), hw, List.getD_eq_getElem?_getD, List.getElem?_append_right (by omega), Nat.add_sub_cancel_left, List.getElem?_append_left (by rw [wbitsOf_length]; exact hj), ← List.getD_eq_getElem?_getD, wbitsOf_get _ _ _ hj, hcw]
/-- How the reading stands. -/
structure RdSt (w wr : World) (B lo hi t b2 n : Nat) (ns : List Nat) (R : Nat → Value) (vd : Value) (S : ByteArray) (D : List Nat) (p : Nat) : Prop where
  tab : Tab wr lo hi t ns R
  rs : RS wr b2 S p
  done : wr.ownsRow B 3 1 vd n (icells D)
  bel : Below w.heap.size w wr
  top : hi ≤ wr.heap.size
theorem RdSt.read {w wr W : World} {B lo hi t b2 n p p' : Nat} {ns : List Nat} {R : Nat → Value} {vd : Value} {S : ByteArray} {D : List Nat} (h : RdSt w wr B lo hi t b2 n ns R vd S D p) (hr : RS W b2 S p') (ho : Only b2 wr W) (hb : b2 < lo ∨ hi ≤ b2) (h0 : w.heap.size ≤ b2) : RdSt w W B lo hi t b2 n ns R vd S D p' := by
  refine ⟨h.tab.keep (fun k h1 h2 => ho.block k (by have := h.top; omega) (by omega)), hr, ?_, ⟨ho.os.trans h.bel.os, ho.tape.trans h.bel.tape, ho.output.trans h.bel.output, Nat.le_trans h.bel.size ho.size, fun k hk => ?_⟩, Nat.le_trans h.top ho.size⟩
  · refine ownsRow_kept h.done (fun g cur hg => ho.block g (lt_heap hg) (fun e => ?_))
    have := h.rs
    unfold RS at this
    rw [← e, hg] at this
    simp at this
  · rw [ho.block k (Nat.lt_of_lt_of_le hk h.bel.size) (by omega)]; exact h.bel.block k hk
theorem RdSt.cell {w wr : World} {B lo hi t b2 n p cp : Nat} {ns : List Nat} {R : Nat → Value} {ao : Option Addr} {S : ByteArray} {D : List Nat} (h : RdSt w wr B lo hi t b2 n ns R (.slice ao n cp) S D p) {q : Nat} (hq : q < n) : ∃ g, ao = some ⟨g, 0, none⟩ ∧ wr.cell? ⟨g, q, none⟩ = some (.int .i64 ((D.getD q 0 : Nat) : Int)) := by
  rcases h.done.2 with ⟨_, h0⟩ | ⟨g, cap, cur, e, _⟩
  · omega
  · cases e
    have hD : D.length = n := by have := h.done.1; rw [icells_length] at this; omega
    refine ⟨g, rfl, ?_⟩
    have := h.done.cells (g := g) rfl q (.int .i64 ((D.getD q 0 : Nat) : Int)) (by
      unfold icells
      rw [List.getElem?_map, List.getElem?_eq_getElem (by omega), getD_in (by omega)]; rfl)
    rw [add_zero_addr] at this
    exact this
end Go.Proofs.Ytklipommocijaaa
