/- Bits as a slice of numbers that the call owns, beside a writer; the document's Text. -/
import Derived.Test.YtklipommocijaaaWc
import Derived.Test.YtklipommocijaaaXm
import Derived.Deep.OwnRows
namespace Go.Proofs.Ytklipommocijaaa
open Go.RowKit
set_option linter.unusedVariables false

def icells (L : List Nat) : List Value := L.map fun x => Value.int .i64 (x : Nat)
theorem icells_snoc (L : List Nat) (x : Nat) : icells L ++ [Value.int .i64 (x : Nat)] = icells (L ++ [x]) := by simp [icells]
/-- The slice of numbers L. -/
def IS (w : World) (B : Nat) (v : Value) (L : List Nat) : Prop := w.ownsRow B 3 1 v L.length (icells L)
theorem IS.nil (w : World) (B : Nat) : IS w B (.slice none 0 0) [] := World.ownsRow_nil _ _ _ _
theorem IS.form {w : World} {B : Nat} {v : Value} {L : List Nat} (h : IS w B v L) : ∃ ao cp, v = .slice ao L.length cp := by
  rcases h.2 with ⟨rfl, h0⟩ | ⟨g, cap, cur, rfl, _⟩
  · exact ⟨none, 0, by rw [h0]⟩
  · exact ⟨_, _, rfl⟩
theorem ownsRow_kept {w w' : World} {B : Nat} {E : TypeId} {size n : Nat} {v : Value} {xs : List Value} (h : w.ownsRow B E size v n xs) (hk : ∀ (g : Nat) (cur : Array Value), w.heap[g]? = some (.cells cur E (0, 0)) → w'.heap[g]? = w.heap[g]?) : w'.ownsRow B E size v n xs := by
  refine ⟨h.1, ?_⟩
  rcases h.2 with hn | ⟨g, cap, cur, hv, hg, hh, r⟩
  · exact .inl hn
  · exact .inr ⟨g, cap, cur, hv, hg, (hk g cur hh).trans hh, r⟩
/-- A writer's call keeps the slice. -/
theorem IS.fr {w w' : World} {B B2 b : Nat} {v : Value} {L M : List Nat} (h : IS w B v L) (hw : WS w B2 b M) (hf : Fr 5 B2 b w w') : IS w' B v L := by
  obtain ⟨v2, hb2, _⟩ := hw
  refine ownsRow_kept h (fun g cur hg => hf.block g (lt_of_block hg) ?_ (.inr (fun cur' m => ?_)))
  · rintro rfl; rw [hb2] at hg; cases hg
  · rw [hg]; intro e; cases e
theorem IS.below {w w' : World} {B : Nat} {v : Value} {L : List Nat} (h : IS w B v L) (hb : Below w.heap.size w w') : IS w' B v L :=
  ownsRow_kept h (fun g cur hg => hb.block g (lt_of_block hg))
theorem IS.only {w w' : World} {B B2 b : Nat} {v : Value} {L M : List Nat} (h : IS w B v L) (hw : WS w B2 b M) (hf : Only b w w') : IS w' B v L := h.fr hw (Fr.only hf)
theorem IS.alloc {w : World} {B : Nat} {v : Value} {L : List Nat} (h : IS w B v L) (o : Obj) : IS (w.alloc o) B v L := World.ownsRow.alloc h o
/-- An append to the slice keeps the writer. -/
theorem WS.fr {w w' : World} {B B2 b bx : Nat} {L : List Nat} (h : WS w B b L) (hf : Fr 3 B2 bx w w') (hbx : w.heap.size ≤ bx) : WS w' B b L := by
  obtain ⟨v, hb, _⟩ := id h
  refine h.kept (hf.block b h.lt (by have := h.lt; omega) (.inr (fun cur m => ?_))) (fun g cur hg => hf.block g (lt_of_block hg) (by have := lt_of_block hg; omega) (.inr (fun cur' m => ?_)))
  · rw [hb]; intro e; cases e
  · rw [hg]; intro e; cases e
theorem Fr.appended {E : TypeId} {B n size : Nat} {w w1 : World} {v : Value} {xs : List Value} {o : Obj} (h : w.ownsRow B E size v n xs) (hg : (w.alloc o).grownBy w1 v.ownBlock) : Fr E B w.heap.size w w1 :=
  (Fr.alloc _ _ _ _ _).trans (Fr.grown (h.alloc o) hg)
theorem and1_i64 (x k : Nat) (hx : x < 9223372036854775808) : bits .and .i64 ((x : Int) / 2 ^ k) 1 = ((x / 2 ^ k % 2 : Nat) : Int) := by
  have e : (x : Int) / 2 ^ k = ((x / 2 ^ k : Nat) : Int) := by simp
  have hl : x / 2 ^ k ≤ x := Nat.div_le_self _ _
  have h := i64_and_nat (x / 2 ^ k) 1 (by omega) (by omega)
  rw [e, show (1 : Int) = ((1 : Nat) : Int) from rfl, h, nat_mask1]
/-- The bytes when so many bits are in. -/
def part (L : List Nat) (m i : Nat) : List Nat := (List.range m).map (byteOf (L.take i))
theorem part_length (L : List Nat) (m i : Nat) : (part L m i).length = m := by simp [part]
theorem part_get (L : List Nat) (m i j : Nat) (h : j < m) : (part L m i)[j]? = some (byteOf (L.take i) j) := by simp [part, List.getElem?_range h]
theorem byteOf_nil (j : Nat) : byteOf [] j = 0 := by
  unfold byteOf
  rw [bsum_high (m := 0) (by omega) (fun i _ _ => by simp)]; rfl
theorem part_zero (L : List Nat) (m : Nat) : part L m 0 = List.replicate m 0 := by
  refine List.ext_getElem? (fun j => ?_)
  by_cases h : j < m
  · rw [part_get L m 0 j h, List.take_zero, byteOf_nil, List.getElem?_replicate, if_pos h]
  · rw [List.getElem?_eq_none (by rw [part_length]; omega), List.getElem?_eq_none (by rw [List.length_replicate]; omega)]
theorem part_succ (L : List Nat) (m i : Nat) (hi : i < L.length) (hm : i / 8 < m) : (part L m i).set (i / 8) (byteOf (L.take i) (i / 8) + L.getD i 0 * 2 ^ (i % 8)) = part L m (i + 1) := by
  have hl : (L.take i).length = i := by rw [List.length_take]; omega
  have e : L.getD i 0 = L[i] := by rw [List.getD_eq_getElem?_getD, List.getElem?_eq_getElem hi]; rfl
  refine List.ext_getElem? (fun j => ?_)
  by_cases h : j < m
  · rw [part_get L m (i + 1) j h, List.take_succ_eq_append_getElem hi, byteOf_snoc, hl]
    by_cases hj : j = i / 8
    · subst hj
      rw [if_pos rfl, List.getElem?_set_self (by rw [part_length]; exact h), e]
    · rw [if_neg hj, List.getElem?_set_ne (by omega), part_get L m i j h]
  · rw [List.getElem?_eq_none (by rw [List.length_set, part_length]; omega), List.getElem?_eq_none (by rw [part_length]; omega)]
theorem part_all (L : List Nat) : part L ((L.length + 7) / 8) L.length = pack L := by unfold part pack; rw [List.take_length]
theorem Bits01.take {L : List Nat} (h : Bits01 L) (i : Nat) : Bits01 (L.take i) := fun x hx => h x (List.mem_of_mem_take hx)
theorem or_u8w (y c q : Nat) (hq : q < 8) (hy : y < 2 ^ q) (hc : c < 2) : bits .or .u8 (y : Int) (wrap64 ((c : Int) * 2 ^ q) % 256) = ((y + c * 2 ^ q : Nat) : Int) := by
  have h := or_u8 y c q hq hy hc
  have h7 := pow_le q 7 (by omega)
  have hm : c * 2 ^ q ≤ 1 * 2 ^ q := Nat.mul_le_mul_right _ (by omega)
  have e0 : (c : Int) % 256 = (c : Int) := by omega
  have e2 : (c : Int) * 2 ^ q = ((c * 2 ^ q : Nat) : Int) := by simp
  rw [e0] at h
  rw [e2, IntWalk.wrap64_in _ ⟨by omega, by omega⟩, ← e2]
  exact h
set_option maxHeartbeats 1000000 in
theorem refText (B cp : Nat) (ao : Option Addr) (L : List Nat) (w : World) (h01 : Bits01 L) (hL : L.length ≤ 1073745000) (hI : IS w B (.slice ao L.length cp) L) :
    Calls Try.prog 21 #[.slice ao L.length cp] w fun e w' => e = .returned (.string (toBA (pack L))) ∧ Below w.heap.size w w' := by
  have HI : Hid (IS w B (.slice ao L.length cp) L) := hI
  have H01 : Hid (Bits01 L) := h01
  clear hI h01
  obtain ⟨q, hq⟩ : ∃ q, q = L.length := ⟨_, rfl⟩
  have HQ : Hid (q = L.length) := hq
  rw [← hq] at hL ⊢
  obtain ⟨m, hm⟩ : ∃ m, m = (q + 7) / 8 := ⟨_, rfl⟩
  have HM : Hid (m = (q + 7) / 8) := hm
  have hmq : ((q : Int) + 7) / 8 = (m : Int) := by omega
  clear hq hm
  obtain ⟨i0, hi, hz0, hz1, hz2⟩ := info_parts Try.infoU8
  go_enter Try.func21, Try.ntmps21
  go_wp2_with (at_make; refine wpList_make_full _ rfl _ _ 67 rfl w.heap.size 5 i0 (.int .u8 0) 1 Try.underlying67 hi hz0 hz1 .i64 .i64 _ _ m rfl rfl ?l1 ?l2 ?c1 ?c2 (Nat.le_refl _) ?_)
  case l1 => exact hmq
  case l2 => exact hmq
  case c1 => rw [hz2]; have := HM.out; omega
  case c2 => unfold maxLen; have := HM.out; omega
  intro w1 hown hgrow
  have hst : Hid (w1.ownsRow w.heap.size 5 1 (.slice (some ⟨w.heap.size, 0, none⟩) m m) m (u8cells (part L m 0)) ∧ Below w.heap.size w w1) := by
    refine ⟨?_, (Below.refl _ _).grown hgrow (Nat.le_refl _) (fun k hk => by cases hk)⟩
    rw [part_zero]
    have e : (madeCells #[Value.int .u8 0] m).toList = u8cells (List.replicate m 0) := by rw [toList_madeCells_one]; simp [u8cells]
    rw [← e]; exact hown
  clear hown hgrow
  go_wp2
  go_loopw [4] (fun i wr => ∃ j : Nat, j ≤ q ∧ i = .int .i64 j ∧ Hid (wr.ownsRow w.heap.size 5 1 (.slice (some ⟨w.heap.size, 0, none⟩) m m) m (u8cells (part L m j)) ∧ Below w.heap.size w wr)) (fun i _ => q - (intOf i).toNat)
  case atStart => exact ⟨0, Nat.zero_le _, rfl, hst⟩
  case round =>
    obtain ⟨j, hj, rfl, hR⟩ := hrel
    by_cases hlt : j < q
    · have hjm : j / 8 < m := by have := HM.out; omega
      have hIr := HI.out.below hR.out.2
      have hform : ∃ gl, ao = some ⟨gl, 0, none⟩ := by
        rcases HI.out.2 with ⟨h, h0⟩ | ⟨g, cap, cur, h, _⟩
        · rw [← HQ.out] at h0; omega
        · exact ⟨g, by cases h; rfl⟩
      obtain ⟨gl, hao⟩ := hform
      rw [hao] at hIr
      have cl : wr.cell? ⟨gl, j, none⟩ = some (.int .i64 (L.getD j 0 : Nat)) := by
        unfold IS at hIr
        rw [hIr.cellAt j (by rw [← HQ.out]; omega)]
        have hjL : j < L.length := by rw [← HQ.out]; exact hlt
        simp [icells, List.getElem?_eq_getElem hjL, List.getD_eq_getElem?_getD]
      have cb : wr.cell? ⟨w.heap.size, j / 8, none⟩ = some (.int .u8 (byteOf (L.take j) (j / 8) : Nat)) := by
        rw [hR.out.1.cellAt (j / 8) (by omega)]
        unfold u8cells
        rw [List.getElem?_map, part_get L m j (j / 8) hjm]; rfl
      have fb := hR.out.1.frozenAt (j / 8)
      have hne : gl ≠ w.heap.size := by
        rintro rfl
        have h1 := (ownsRow_heap hIr).2
        obtain ⟨c1, h1⟩ := h1
        obtain ⟨c2, h2⟩ := (ownsRow_heap hR.out.1).2
        rw [h1] at h2; cases h2
      rw [hao]
      clear hIr
      go_wp2
      go_region
      go_wp2
      go_roundw
      case rel =>
        have hjL : j < L.length := by rw [← HQ.out]; exact hlt
        have hlt2 : (L.take j).length = j := by rw [List.length_take]; omega
        have hy := byteOf_last (H01.out.take j)
        rw [hlt2] at hy
        have hc : L[j]?.getD 0 < 2 := by rw [← List.getD_eq_getElem?_getD]; exact H01.out.getD j
        have e : bits BinOp.or IntKind.u8 (↑(byteOf (List.take j L) (j / 8))) (wrap64 (↑(L[j]?.getD 0) * 2 ^ (j % 8)) % 256) = ((byteOf (L.take j) (j / 8) + L.getD j 0 * 2 ^ (j % 8) : Nat) : Int) := by
          rw [or_u8w _ _ _ (by omega) hy hc, List.getD_eq_getElem?_getD]
        have hs := (hR.out.1.stored (j / 8) (.int .u8 ((byteOf (L.take j) (j / 8) + L.getD j 0 * 2 ^ (j % 8) : Nat) : Int))).1
        refine ⟨j + 1, by omega, by go_num, ?_⟩
        rw [e]
        refine ⟨?_, (hR.out.2.setCell (p := ⟨w.heap.size, j / 8, none⟩) (Nat.le_refl _) _).drew⟩
        have e2 : (u8cells (part L m j)).set (j / 8) (.int .u8 ((byteOf (L.take j) (j / 8) + L.getD j 0 * 2 ^ (j % 8) : Nat) : Int)) = u8cells (part L m (j + 1)) := by
          unfold u8cells
          rw [← part_succ L m j hjL hjm, List.map_set]
        rw [e2] at hs
        exact hs
      case measure => simp [intOf]; omega
    · have hcv : (convert 67 9 (.slice (some ⟨w.heap.size, 0, none⟩) m m)).run Try.prog wr = .ok (.string (toBA (pack L))) wr := by
        have hjq : j = L.length := by rw [← HQ.out]; omega
        refine conv_row wr _ _ 5 w.heap.size _ (pack L) Try.underlying67 Try.underlying5 Try.underlying9 ?_ ?_
        · rw [pack_length, ← HQ.out, ← HM.out, ← part_all, ← HQ.out, ← HM.out]
          have h := hR.out.1
          rw [hjq, ← HQ.out] at h
          exact h
        · intro x hx
          obtain ⟨j, _, rfl⟩ := List.mem_map.1 hx
          exact byteOf_lt H01.out j
      go_wp2
      go_ret
      exact ⟨rfl, hR.out.2⟩
end Go.Proofs.Ytklipommocijaaa
