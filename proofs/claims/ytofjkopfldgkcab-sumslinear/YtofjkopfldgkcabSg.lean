/- take: bytes go into a hasher. -/
import Derived.Test.YtofjkopfldgkcabSf
namespace Go.Proofs.Ytofjkopfldgkcab
open Go.RowKit
set_option linter.unusedVariables false

theorem splice_row (f g : Nat → Value) (o : Nat) (cs : List Value) (hfit : o + cs.length ≤ 23) (h : ∀ i, i < 23 → some (g i) = if o ≤ i ∧ i < o + cs.length then cs[i - o]? else some (f i)) :
    ((hrow f).toList.take o ++ cs ++ (hrow f).toList.drop (o + cs.length)).toArray = hrow g := by
  have hl : (hrow f).toList.length = 23 := by simp [hrow_size]
  have hg : ∀ i, i < 23 → (hrow f).toList[i]? = some (f i) := fun i hi => by rw [Array.getElem?_toList]; exact hrow_get f i hi
  apply Array.ext_getElem?
  intro i
  rw [List.getElem?_toArray]
  by_cases hi : i < 23
  · rw [hrow_get g i hi, h i hi]
    by_cases h1 : i < o
    · rw [if_neg (by omega), List.append_assoc, List.getElem?_append_left (by simp [hl]; omega), List.getElem?_take_of_lt h1, hg i hi]
    · by_cases h2 : i < o + cs.length
      · rw [if_pos ⟨by omega, h2⟩, List.getElem?_append_left (by simp [hl]; omega), List.getElem?_append_right (by simp [hl]; omega)]
        congr 1
        simp [hl]
        omega
      · rw [if_neg (by omega), List.getElem?_append_right (by simp [hl]; omega), List.getElem?_drop, ← hg i hi]
        congr 1
        simp [hl]
        omega
  · rw [List.getElem?_eq_none (by simp [hl]; omega), Array.getElem?_eq_none (by rw [hrow_size]; omega)]
/-- The bytes when m of a text were laid from r on. -/
def laid (L : Nat → Nat) (r m : Nat) (l : List Nat) : Nat → Nat := fun k => if r ≤ k ∧ k < r + m then l.getD (k - r) 0 else L k
theorem cells_eq (s : ByteArray) (m : Nat) : ((s.extract 0 m).data.map fun b => Value.int .u8 (b.toNat : Nat)).toList = ((BL s).take m).map fun x => Value.int .u8 (x : Nat) := by
  simp [BL, List.map_take, Function.comp_def]
theorem cells_get (s : ByteArray) (m j : Nat) (hm : m ≤ s.size) (hj : j < m) : (((BL s).take m).map fun x => Value.int .u8 (x : Nat))[j]? = some (.int .u8 ((BL s).getD j 0 : Nat)) := by
  have h : j < s.size := by omega
  rw [List.getElem?_map, List.getElem?_take_of_lt hj, BL_get? s j h, ← BL_getD s j h]
  rfl
theorem run_copy_str {w : World} {b : Nat} {p : Value} {seed : Nat} {v : Nat → Nat} {n : Nat} {L : Nat → Nat} (h : HB w b p seed v n L) (ty : TypeId) (r m : Nat) (s : ByteArray) (hr : r < 16) (hm : m = Nat.min s.size (16 - r)) :
    (Builtin.copy_ #[23, 9] ty #[.slice (some ⟨b, 7 + r, none⟩) (16 - r) (16 - r), .string s]).run Try.prog w = .ok (goInt m) (w.setRow b (hrow (hcl p seed v n (laid L r m (BL s))))) := by
  have hms : m ≤ s.size := by rw [hm]; exact Nat.min_le_left _ _
  have hmr : m ≤ 16 - r := by rw [hm]; exact Nat.min_le_right _ _
  have hsz : (Try.prog.info? 5).map (·.size) = some 1 := by kernel_rfl
  obtain ⟨cs, hcs⟩ : ∃ cs, ((s.extract 0 m).data.map fun b => Value.int .u8 (b.toNat : Nat)).toList = cs := ⟨_, rfl⟩
  rw [cells_eq] at hcs
  have hlen : cs.length = m := by rw [← hcs]; simp [BL_length]; omega
  have hget : ∀ j, j < m → cs[j]? = some (.int .u8 ((BL s).getD j 0 : Nat)) := fun j hj => by rw [← hcs]; exact cells_get s m j hms hj
  have hone : ∀ x ∈ cs, x.oneCell' = true := by
    intro x hx
    rw [← hcs] at hx
    obtain ⟨y, _, rfl⟩ := List.mem_map.1 hx
    rfl
  have hst := run_storeCells_at Try.prog b (7 + r) _ cs 0 _ w h (by rw [hrow_size]; omega) hone
  have hrow : ((hrow (hcl p seed v n L)).toList.take (7 + r + 0) ++ cs ++ (hrow (hcl p seed v n L)).toList.drop (7 + r + 0 + cs.length)).toArray = hrow (hcl p seed v n (laid L r m (BL s))) := by
    refine splice_row _ _ _ _ (by omega) (fun i hi => ?_)
    by_cases hc : 7 + r + 0 ≤ i ∧ i < 7 + r + 0 + cs.length
    · rw [if_pos hc, hget _ (by omega)]
      unfold hcl laid
      rw [if_neg (by omega), if_neg (by omega), if_neg (by omega), if_neg (by omega)]
      rw [if_pos (by omega), show i - 7 - r = i - (7 + r + 0) by omega]
    · rw [if_neg hc]
      unfold hcl laid
      by_cases e0 : i = 0
      · rw [if_pos e0, if_pos e0]
      · rw [if_neg e0, if_neg e0]
        by_cases e1 : i = 1
        · rw [if_pos e1, if_pos e1]
        · rw [if_neg e1, if_neg e1]
          by_cases e6 : i < 6
          · rw [if_pos e6, if_pos e6]
          · rw [if_neg e6, if_neg e6]
            by_cases e7 : i = 6
            · rw [if_pos e7, if_pos e7]
            · rw [if_neg e7, if_neg e7, if_neg (by omega)]
  rw [hrow] at hst
  cases hq : Try.prog.info? 5 with
  | none => simp [hq] at hsz
  | some i =>
    have hi : i.size = 1 := by simpa [hq] using hsz
    simp only [Builtin.copy_, Builtin.lenOf, Builtin.firstCells, sizeOf, typeInfo]
    simp [run_underlying Try.underlying23, hq, ← hm]
    have he : List.take m (List.map (fun b => Value.int .u8 (b.toNat : Nat)) s.data.toList) = cs := by
      rw [← hcs]
      simp [BL, List.map_take, Function.comp_def]
    rw [he]
    rw [show (storeCells ⟨b, 7 + r, none⟩ cs).run Try.prog w = _ from hst]
    rfl
theorem step_copy_str {ops : Array Oper} {o : Oper} {a : Act} {w w' : World} {K : Act → World → Prop} {Q : Exit → Act → World → Prop} {E : Prop} (hgd : o.guard = none) (d s : Operand) (dT sT : TypeId)
    (ho : o.op = .call { callee := .builtin .copy, args := #[d, s], argTypes := #[dT, sT] }) (vd vs : Value) (hd : a.eval d = vd) (hs : a.eval s = vs) (m : Int)
    (hrun : (Builtin.copy_ #[dT, sT] o.type #[vd, vs]).run Try.prog w = .ok (goInt m) w') (h : K (a.put o.dst (goInt m)) w') :
    if Region.wanted o (yielded ops a.tmps) = true then Oper.wp Try.prog o a w K Q else E := by
  have hw : Region.wanted o (yielded ops a.tmps) = true := by simp [Region.wanted, hgd]
  rw [if_pos hw]
  unfold Oper.wp
  simp [execOp, ho, resolve, invoke, builtin, hd, hs, hrun, Result.andThen]
  exact h
section
variable {w : World} {b : Nat} {p : Value} {seed : Nat} {v v' : Nat → Nat} {n : Nat} {L : Nat → Nat}
theorem HB.congr (h : HB w b p seed v n L) (e : ∀ i, i < 4 → v i = v' i) : HB w b p seed v' n L := by
  have : hrow (hcl p seed v n L) = hrow (hcl p seed v' n L) := by
    unfold hrow
    congr 1
    apply List.map_congr_left
    intro i hi
    unfold hcl
    by_cases e6 : i < 6
    · by_cases e0 : i = 0
      · rw [if_pos e0, if_pos e0]
      · by_cases e1 : i = 1
        · rw [if_neg e0, if_neg e0, if_pos e1, if_pos e1]
        · rw [e (i - 2) (by omega)]
    · have e0 : ¬ i = 0 := by omega
      have e1 : ¬ i = 1 := by omega
      rw [if_neg e0, if_neg e0, if_neg e1, if_neg e1, if_neg e6, if_neg e6]
  unfold HB
  rw [← this]
  exact h
end
/-- Block b is a hasher that took the bytes l. -/
def HS (w : World) (b : Nat) (p : Value) (l : List Nat) (seed : Nat) : Prop :=
  ∃ L : Nat → Nat, HB w b p seed (fun i => lan l (ini seed i) i (l.length / 16)) l.length L ∧ (∀ k, k < l.length % 16 → L k = l.getD (16 * (l.length / 16) + k) 0) ∧ (∀ k, L k < 256)
theorem getD_right (l r : List Nat) (i : Nat) (h : l.length ≤ i) : (l ++ r).getD i 0 = r.getD (i - l.length) 0 := by
  rw [List.getD_eq_getElem?_getD, List.getD_eq_getElem?_getD, List.getElem?_append_right h]
theorem laid_agree (l t : List Nat) (L : Nat → Nat) (m : Nat) (hm1 : m ≤ 16 - l.length % 16) (hmt : m ≤ t.length) (hL : ∀ k, k < l.length % 16 → L k = l.getD (16 * (l.length / 16) + k) 0) (k : Nat) (hk : k < l.length % 16 + m) :
    laid L (l.length % 16) m t k = (l ++ t.take m).getD (16 * (l.length / 16) + k) 0 := by
  unfold laid
  by_cases h1 : l.length % 16 ≤ k
  · rw [if_pos ⟨h1, hk⟩, getD_right _ _ _ (by omega), getD_take _ _ _ (by omega)]
    congr 1
    omega
  · rw [if_neg (by omega), hL k (by omega), getD_app _ _ _ (by omega)]
theorem laid_lt (L : Nat → Nat) (r m : Nat) (t : List Nat) (hL : ∀ k, L k < 256) (ht : ∀ x ∈ t, x < 256) (k : Nat) : laid L r m t k < 256 := by
  unfold laid
  split
  · exact getD_lt ht _
  · exact hL k
theorem HS.more {w : World} {b : Nat} {p : Value} {l t : List Nat} {seed m : Nat} {L : Nat → Nat} (hm1 : m ≤ 16 - l.length % 16) (hmt : m ≤ t.length) (ht : ∀ x ∈ t, x < 256)
    (hL : ∀ k, k < l.length % 16 → L k = l.getD (16 * (l.length / 16) + k) 0) (hLt : ∀ k, L k < 256) (hne : (l.length + m) % 16 ≠ 0)
    (h : HB w b p seed (fun i => lan l (ini seed i) i (l.length / 16)) (l.length + m) (laid L (l.length % 16) m t)) : HS w b p (l ++ t.take m) seed := by
  have hlen : (l ++ t.take m).length = l.length + m := by simp; omega
  have hd : (l.length + m) / 16 = l.length / 16 := by omega
  refine ⟨laid L (l.length % 16) m t, ?_, ?_, laid_lt L _ m t hLt ht⟩
  · rw [hlen, hd]
    exact h.congr (fun i hi => (lan_app l _ _ i _ hi (by omega)).symm)
  · intro k hk
    rw [hlen] at hk ⊢
    rw [hd]
    exact laid_agree l t L m hm1 hmt hL k (by omega)
theorem HS.full {w : World} {b : Nat} {p : Value} {l t : List Nat} {seed m : Nat} {L : Nat → Nat} (hm1 : m ≤ 16 - l.length % 16) (hmt : m ≤ t.length) (ht : ∀ x ∈ t, x < 256) (hm0 : 0 < m)
    (hL : ∀ k, k < l.length % 16 → L k = l.getD (16 * (l.length / 16) + k) 0) (hLt : ∀ k, L k < 256) (hne : (l.length + m) % 16 = 0)
    (h : HB w b p seed (mixed (fun i => lan l (ini seed i) i (l.length / 16)) (laid L (l.length % 16) m t) 4) (l.length + m) (laid L (l.length % 16) m t)) : HS w b p (l ++ t.take m) seed := by
  have hlen : (l ++ t.take m).length = l.length + m := by simp; omega
  have hd : (l.length + m) / 16 = l.length / 16 + 1 := by omega
  have ha : ∀ k, k < 16 → laid L (l.length % 16) m t k = (l ++ t.take m).getD (16 * (l.length / 16) + k) 0 := fun k hk => laid_agree l t L m hm1 hmt hL k (by omega)
  refine ⟨laid L (l.length % 16) m t, ?_, ?_, laid_lt L _ m t hLt ht⟩
  · rw [hlen, hd]
    refine h.congr (fun i hi => ?_)
    show mixed _ _ 4 i = hstep 2246822519 13 2654435761 (lan (l ++ t.take m) (ini seed i) i (l.length / 16)) (wd (l ++ t.take m) (16 * (l.length / 16) + 4 * i))
    unfold mixed
    rw [if_pos hi, lan_app l _ _ i _ hi (by omega), wdN_four]
    unfold wd
    rw [ha (4 * i + 0) (by omega), ha (4 * i + 1) (by omega), ha (4 * i + 2) (by omega), ha (4 * i + 3) (by omega)]
    rfl
  · intro k hk
    rw [hlen] at hk
    omega
theorem Only.setRow (b : Nat) (w : World) (c : Array Value) : Only b w (w.setRow b c) :=
  ⟨rfl, rfl, rfl, by simp [World.setRow], fun k hk hne => by
    show (w.heap.modify b _)[k]? = _
    rw [Array.getElem?_modify, if_neg (fun e => hne e.symm)]⟩
def strLen : Value → Nat
  | .string s => s.size
  | _ => 0
theorem BL_extract (s : ByteArray) (m : Nat) : BL (s.extract m s.size) = (BL s).drop m := by
  simp only [BL]
  rw [← List.map_drop]
  congr 1
  simp
  exact List.take_of_length_le (by simp)
set_option maxRecDepth 20000 in
set_option maxHeartbeats 1000000 in
theorem take (b : Nat) (p : Value) (l : List Nat) (seed : Nat) (s : ByteArray) (w : World) (h : HS w b p l seed) (hlen : l.length + s.size ≤ 4611686018427387904) :
    Calls Try.prog 10 #[.pointer (some ⟨b, 0, none⟩), .string s] w fun e w' => e = .returned (.tuple #[]) ∧ HS w' b p (l ++ BL s) seed ∧ Only b w w' := by
  have HH : Hid (HS w b p l seed ∧ l.length + s.size ≤ 4611686018427387904) := ⟨h, hlen⟩
  clear h hlen
  go_enter Try.func10, Try.ntmps10
  go_wp2
  go_loopw [1] (fun x wr => ∃ (t : ByteArray) (l' : List Nat), x = .string t ∧ l' ++ BL t = l ++ BL s ∧ HS wr b p l' seed ∧ Only b w wr) (fun x _ => strLen x)
  case atStart => exact ⟨s, l, rfl, rfl, HH.out.1, Only.refl _ _⟩
  case round =>
    obtain ⟨t, l', rfl, hl, ⟨L, hb, hL, hLt⟩, ho⟩ := hrel
    have hln : l'.length + t.size ≤ 4611686018427387904 := by
      have := congrArg List.length hl
      simp [BL_length] at this
      have := HH.out.2
      omega
    by_cases hpos : 0 < t.size
    · obtain ⟨n, hn⟩ : ∃ n, l'.length = n := ⟨_, rfl⟩
      obtain ⟨r, hr⟩ : ∃ r, l'.length % 16 = r := ⟨_, rfl⟩
      obtain ⟨m, hm⟩ : ∃ m, m = Nat.min t.size (16 - r) := ⟨_, rfl⟩
      have hr16 : r < 16 := by omega
      have hmt : m ≤ t.size := by rw [hm]; exact Nat.min_le_left _ _
      have hmr : m ≤ 16 - r := by rw [hm]; exact Nat.min_le_right _ _
      have hm0 : 0 < m := by rw [hm]; exact Nat.lt_min.2 ⟨hpos, by omega⟩
      have h6 := hb.took
      rw [hn] at h6
      have ht1 : (n : Int).tmod 16 = (r : Int) := by rw [Int.tmod_eq_emod_of_nonneg (by omega)]; omega
      have ht2 : (n : Int) % 16 = (r : Int) := by omega
      have hsl := slice_low b 7 r hr16
      have HC : Hid (∀ k ty, (Builtin.copy_ #[23, 9] ty #[.slice (some ⟨b, 7 + r, none⟩) (16 - r) (16 - r), .string t]).run Try.prog (wr.drewN k) = .ok (goInt m) ((wr.drewN k).setRow b (hrow (hcl p seed (fun i => lan l' (ini seed i) i (l'.length / 16)) l'.length (laid L r m (BL t)))))) :=
        fun k ty => run_copy_str (hb.drewN k) ty r m t hr16 hm
      have HX : Hid (HB wr b p seed (fun i => lan l' (ini seed i) i (l'.length / 16)) l'.length L ∧ (∀ k, k < l'.length % 16 → L k = l'.getD (16 * (l'.length / 16) + k) 0) ∧ (∀ k, L k < 256) ∧ Only b w wr ∧ l' ++ BL t = l ++ BL s) := ⟨hb, hL, hLt, ho, hl⟩
      have HN : Hid (l'.length = n ∧ l'.length % 16 = r) := ⟨hn, hr⟩
      clear hb hL hLt ho hl hn hr hm
      go_wp2
      go_region_law (refine step_copy_str rfl (.tmp 16) (.tmp 17) 23 9 rfl _ _ rfl rfl (m : Int) (HC.out _ _) ?_)
      have hW : Hid (HB ((wr.drewN 1).setRow b (hrow (hcl p seed (fun i => lan l' (ini seed i) i (l'.length / 16)) l'.length (laid L r m (BL t))))) b p seed (fun i => lan l' (ini seed i) i (l'.length / 16)) n (laid L r m (BL t)) ∧ Only b w ((wr.drewN 1).setRow b (hrow (hcl p seed (fun i => lan l' (ini seed i) i (l'.length / 16)) l'.length (laid L r m (BL t)))))) := by
        constructor
        · have := setRow_heap (wr.drewN 1) b _ (hrow (hcl p seed (fun i => lan l' (ini seed i) i (l'.length / 16)) l'.length (laid L r m (BL t)))) _ _ (HX.out.1.drewN 1)
          rw [← HN.out.1]
          exact this
        · exact (HX.out.2.2.2.1.drewN 1).trans (Only.setRow _ _ _)
      generalize (wr.drewN 1).setRow b (hrow (hcl p seed (fun i => lan l' (ini seed i) i (l'.length / 16)) l'.length (laid L r m (BL t)))) = W1 at hW ⊢
      clear h6 ht1 ht2 hsl HC
      have h6 := hW.out.1.took
      have hf := hW.out.1.free 6
      obtain ⟨N, hN⟩ : ∃ N, N = n + m := ⟨_, rfl⟩
      have hNn := HN.out.1
      have hsum : wrap64 ((n : Int) + (m : Int)) = (N : Int) := by rw [IntWalk.wrap64_in _ ⟨by omega, by omega⟩]; omega
      have hmle : (m : Int) ≤ (t.size : Int) := by omega
      have HW2 : Hid (HB (W1.setCell ⟨b, 6, none⟩ (.int .i64 (N : Nat))) b p seed (fun i => lan l' (ini seed i) i (l'.length / 16)) N (laid L r m (BL t)) ∧ Only b w (W1.setCell ⟨b, 6, none⟩ (.int .i64 (N : Nat)))) :=
        ⟨hW.out.1.setTook N, hW.out.2.trans (Only.setCell _ _ _ _)⟩
      have HL : Hid ((l' ++ (BL t).take m) ++ BL (t.extract m t.size) = l ++ BL s) := by
        show _ = _
        rw [BL_extract, List.append_assoc, List.take_append_drop]
        exact HX.out.2.2.2.2
      have HM : Hid (N = n + m ∧ m ≤ 16 - r ∧ m ≤ (BL t).length ∧ 0 < m) := ⟨hN, hmr, by rw [BL_length]; exact hmt, hm0⟩
      clear hNn hN hW
      by_cases hz : N % 16 = 0
      · have hz1 : ((N : Int).tmod 16 == 0) = true := by rw [Int.tmod_eq_emod_of_nonneg (by omega)]; simp; omega
        have hz2 : ((N : Int) % 16 == 0) = true := by simp; omega
        go_wp2_with fail
        refine (mix b p seed _ N _ _ HW2.out.1 (fun i => lan_lt _ _ _ _ (ini_lt _ _)) (laid_lt L r m _ HX.out.2.2.1 (BL_lt t))).mono ?_
        rintro e w3 ⟨rfl, hb3, ho3⟩
        have HE : Hid (HS w3 b p (l' ++ (BL t).take m) seed ∧ Only b w w3) := by
          obtain ⟨q1, q2⟩ := HN.out
          obtain ⟨m1, m2, m3, m4⟩ := HM.out
          refine ⟨HS.full (L := L) (by omega) m3 (BL_lt t) m4 HX.out.2.1 HX.out.2.2.1 (by omega) ?_, HW2.out.2.trans ho3⟩
          rw [q2, q1, ← m1]
          rw [q1] at hb3
          exact hb3
        clear hb3 ho3
        go_wp2
        refine ⟨⟨_, _, rfl, HL.out, HE.out.1, HE.out.2⟩, ?_⟩
        simp [strLen]
        omega
      · have hz1 : ((N : Int).tmod 16 == 0) = false := by rw [Int.tmod_eq_emod_of_nonneg (by omega)]; simp; omega
        have hz2 : ((N : Int) % 16 == 0) = false := by simp; omega
        have HE : Hid (HS (W1.setCell ⟨b, 6, none⟩ (.int .i64 (N : Nat))) b p (l' ++ (BL t).take m) seed) := by
          obtain ⟨q1, q2⟩ := HN.out
          obtain ⟨m1, m2, m3, m4⟩ := HM.out
          refine HS.more (L := L) (by omega) m3 (BL_lt t) HX.out.2.1 HX.out.2.2.1 (by omega) ?_
          rw [q2, q1, ← m1]
          have := HW2.out.1
          rw [q1] at this
          exact this
        go_wp2
        refine ⟨⟨_, _, rfl, HL.out, HE.out, HW2.out.2⟩, ?_⟩
        simp [strLen]
        omega
    · have ht0 : t.size = 0 := by omega
      have HR : Hid (HS wr b p (l ++ BL s) seed ∧ Only b w wr) := by
        refine ⟨?_, ho⟩
        have : BL t = [] := List.eq_nil_of_length_eq_zero (by rw [BL_length]; exact ht0)
        rw [this, List.append_nil] at hl
        rw [← hl]
        exact ⟨L, hb, hL, hLt⟩
      clear hb hL hLt ho hl
      go_wp2
      go_end0
      exact ⟨rfl, HR.out⟩
end Go.Proofs.Ytofjkopfldgkcab
