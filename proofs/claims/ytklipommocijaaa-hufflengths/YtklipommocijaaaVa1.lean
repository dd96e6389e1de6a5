/- The document's numbers, rising. -/
import Derived.Test.YtklipommocijaaaGl1
import Derived.Test.YtklipommocijaaaVz
import Derived.Laws.AppendOwnNone
namespace Go.Proofs.Ytklipommocijaaa
open Go.RowKit
set_option linter.unusedVariables false

theorem ins_at (x : Nat) : ∀ (O : List Nat) (k : Nat), k ≤ O.length → (∀ j, j < k → O.getD j 0 ≤ x) → (k < O.length → x < O.getD k 0) → ins x O = O.take k ++ [x] ++ O.drop k
  | [], k, hk, _, _ => by simp at hk; subst hk; rfl
  | y :: O, 0, hk, _, h2 => by
    have := h2 (by simp)
    simp at this
    rw [ins, if_neg (by omega)]; rfl
  | y :: O, k + 1, hk, h1, h2 => by
    have h0 := h1 0 (by omega)
    simp at h0
    rw [ins, if_pos h0, ins_at x O k (by simpa using hk) (fun j hj => by have := h1 (j + 1) (by omega); simpa using this) (fun h => by have := h2 (by simpa using h); simpa using this)]
    rfl
theorem isort_snoc (l : List Nat) (x : Nat) : ∀ out, isort out (l ++ [x]) = ins x (isort out l) := by
  induction l with
  | nil => intro out; rfl
  | cons y l ih => intro out; exact ih (ins y out)
theorem owns_weak {w : World} {B B2 : Nat} {E : TypeId} {size n : Nat} {v : Value} {xs : List Value} (h : w.ownsRow B2 E size v n xs) (hB : B ≤ B2) : w.ownsRow B E size v n xs := by
  refine ⟨h.1, ?_⟩
  rcases h.2 with e | ⟨g, cap, cur, e1, e2, e3⟩
  · exact .inl e
  · exact .inr ⟨g, cap, cur, e1, Nat.le_trans hB e2, e3⟩
theorem isort_len (l : List Nat) : (isort [] l).length = l.length := by have := (isort_perm l []).length_eq; simpa using this
structure RisSt (w wr : World) (xs : List Nat) (i n : Nat) (v : Value) : Prop where
  own : wr.ownsRow w.heap.size 3 1 v n (icells (isort [] (xs.take i)))
  len : (isort [] (xs.take i)).length = n
  bel : Below w.heap.size w wr
set_option maxRecDepth 20000 in
set_option maxHeartbeats 4000000 in
theorem rising_ok (xs : List Nat) (a : Option Addr) (c N : Nat) (w : World) (hN : xs.length = N) (hrow : IRow w a (xs.map fun x => ((x : Nat) : Int))) (hlen : N ≤ 100000) :
    Calls Try.prog 34 #[.slice a N c] w fun e w' => ∃ v, e = .returned v ∧ RisSt w w' xs N N v := by
  have HR : Hid (IRow w a (xs.map fun x => ((x : Nat) : Int))) := hrow
  have HN : Hid (xs.length = N) := hN
  obtain ⟨i0, hi, hz0, hz1, hz2⟩ := info_split intInfo
  have HI : Hid (Try.prog.info? 3 = some i0 ∧ i0.zero = some (.int .i64 0) ∧ i0.size = 1 ∧ i0.bytes = 8) := ⟨hi, hz0, hz1, hz2⟩
  clear hi hz0 hz1 hz2 hrow hN
  go_enter Try.func34, Try.ntmps34
  go_wp2
  go_loopw [3, 4, 5, 6] (fun v3 v4 _ _ wr => ∃ (i : Nat) (V : Value), V = v3 ∧ v4 = .int .i64 i ∧ i ≤ N ∧ Hid (RisSt w wr xs i i V)) (fun _ v4 _ _ _ => N - (intOf v4).toNat)
  case atStart => exact ⟨0, _, rfl, rfl, by omega, World.ownsRow_nil _ _ _ _, rfl, Below.refl _ _⟩
  case round =>
    obtain ⟨i, V, rfl, rfl, hiN, HS⟩ := hrel
    by_cases hlt : i < N
    · have hlti : (i : Int) < (N : Int) := by omega
      obtain ⟨b, off, rfl, cx, hbw⟩ := (HR.out.below HS.out.bel).at (show i < (xs.map fun x => ((x : Nat) : Int)).length by rw [List.length_map, HN.out]; exact hlt)
      obtain ⟨x, hx⟩ : ∃ x, xs.getD i 0 = x := ⟨_, rfl⟩
      have hxi : (xs.map fun x => ((x : Nat) : Int)).getD i 0 = (x : Int) := by
        rw [← hx, getD_in (by rw [List.length_map, HN.out]; exact hlt), getD_in (by rw [HN.out]; exact hlt)]; simp
      rw [hxi] at cx
      obtain ⟨O, hO⟩ : ∃ O, isort [] (xs.take i) = O := ⟨_, rfl⟩
      have hnx : isort [] (xs.take (i + 1)) = ins x O := by
        rw [List.take_succ_eq_append_getElem (by rw [HN.out]; exact hlt), isort_snoc, hO, ← hx, getD_in (by rw [HN.out]; exact hlt)]
      have hOl : O.length = i := by rw [← hO]; exact HS.out.len
      have hown := HS.out.own
      rw [hO] at hown
      have HO : Hid (isort [] (xs.take (i + 1)) = ins x O ∧ O.length = i) := ⟨hnx, hOl⟩
      have hB := HS.out.bel.size
      have HX : Hid (∀ W, Below wr.heap.size wr W → W.cell? ⟨b, off + i, none⟩ = some (.int .i64 (x : Int))) := fun W hW => by rw [hW.cell hbw]; exact cx
      clear hx hxi hO hnx
      rcases hown.2 with ⟨rfl, hi0⟩ | ⟨g, cap, cur, rfl, hBg, hg, hcap, hcapm, hcur, htake⟩
      · subst hi0
        have hO0 : O = [] := List.eq_nil_of_length_eq_zero hOl
        subst hO0
        have cx0 : wr.cell? ⟨b, off + 0, none⟩ = some (.int .i64 (x : Int)) := cx
        clear hown hOl
        go_wp2
        refine wp_loop_rounds 1 ?_
        rw [rounds_succ]
        go_wp2
        go_quiet (fail)
        have HNW : Hid (∀ j u, [Value.int .i64 (x : Int)][j]? = some u → ((wr.drewN nq).alloc (.cells #[.int .i64 (x : Int)] 3)).cell? ((⟨wr.heap.size, 0, none⟩ : Addr).add j) = some u) := news1 (wr.drewN nq) _ _
        have cx1 : (wr.drewN nq).cell? ⟨b, off, none⟩ = some (.int .i64 (x : Int)) := cx0
        go_wp2_with (at_builtin; first
          | (refine wpList_append_own_none rfl _ _ 22 rfl 0 3 i0 1 Try.underlying22 HI.out.1 (.slice none 0 0) 0 [] rfl (World.ownsRow_nil _ _ _ _) rfl ?_)
          | (refine wpList_append_lies _ rfl _ _ 22 rfl wr.heap.size 3 i0 (.int .i64 0) 1 8 Try.underlying22 HI.out.1 HI.out.2.1 HI.out.2.2.1 HI.out.2.2.2 rfl (by decide) (.slice none 0 0) 0 [] rfl (World.ownsRow_nil _ _ _ _) ⟨wr.heap.size, 0, none⟩ 1 1 [.int .i64 (x : Int)] rfl rfl HNW.out (one1 _) (by decide) (by decide) (by decide) (by simp) _ rfl ?_))
        intro g1 cap1 w1 hown1 hgrow1 hat1 hgl1
        have HE : Hid (RisSt w w1 xs 1 1 (.slice (some ⟨g1, 0, none⟩) 1 cap1)) := by
          refine ⟨?_, ?_, ?_⟩
          · rw [HO.out.1]; exact owns_weak hown1 hB
          · rw [HO.out.1]; rfl
          · have h := HS.out.bel
            have h2 : Below w.heap.size w ((wr.drewN nq).alloc (.cells #[.int .i64 (x : Int)] 3)) := Below.alloc (a := w) (w := wr.drewN nq) ⟨h.os, h.tape, h.output, h.size, h.block⟩ h.size _
            exact h2.grown hgrow1 h2.size (fun k hk => by cases hk)
        have HOW : Hid (w1.ownsRow 0 3 1 (.slice (some ⟨g1, 0, none⟩) 1 cap1) 1 [.int .i64 (x : Int)]) := owns_weak hown1 (by omega)
        clear hown1 hgrow1 hat1 hgl1
        go_wp2_with (at_builtin; refine wpList_append_own_none rfl _ _ 22 rfl 0 3 i0 1 Try.underlying22 HI.out.1 (.slice (some ⟨g1, 0, none⟩) 1 cap1) 1 _ rfl HOW.out rfl ?_)
        exact ⟨⟨1, _, rfl, rfl, by omega, HE⟩, by simp [intOf]; omega⟩
      · have hcell : ∀ j, j < i → wr.cell? ⟨g, j, none⟩ = some (.int .i64 ((O.getD j 0 : Nat) : Int)) := fun j hj => by
          have := hown.cells (g := g) rfl j (.int .i64 ((O.getD j 0 : Nat) : Int)) (by
            unfold icells
            rw [List.getElem?_map, List.getElem?_eq_getElem (by omega), getD_in (by omega)]; rfl)
          rw [add_zero_addr] at this
          exact this
        have HCE : Hid (∀ j, j < i → wr.cell? ⟨g, j, none⟩ = some (.int .i64 ((O.getD j 0 : Nat) : Int))) := hcell
        have HG : Hid (g < wr.heap.size) := lt_heap hg
        clear hown hcell hg hcur htake hBg
        go_wp2
        go_loopw [6] (fun v6 ws => ∃ k m : Nat, v6 = .int .i64 k ∧ k ≤ i ∧ ws = wr.drewN m ∧ Hid (∀ j, j < k → O.getD j 0 ≤ x)) (fun v6 _ => i - (intOf v6).toNat)
        case atStart => exact ⟨0, 0, rfl, by omega, rfl, fun j hj => by omega⟩
        case round =>
          obtain ⟨k, m, rfl, hk, rfl, HK⟩ := hrel
          by_cases hlk : k < i
          · have hlki : (k : Int) < (i : Int) := by omega
            have ck : wr.cell? ⟨g, k, none⟩ = some (.int .i64 ((O.getD k 0 : Nat) : Int)) := HCE.out k hlk
            obtain ⟨y, hy⟩ : ∃ y, O.getD k 0 = y := ⟨_, rfl⟩
            rw [hy] at ck
            have HY : Hid (O.getD k 0 = y) := hy
            clear hy
            by_cases hyx : y ≤ x
            · have hyxi : (y : Int) ≤ (x : Int) := by omega
              have NX : Hid (∀ j, j < k + 1 → O.getD j 0 ≤ x) := fun j hj => by
                by_cases e : j = k
                · subst e; rw [HY.out]; exact hyx
                · exact HK.out j (by omega)
              go_wp2_with fail
              go_quiet (fail)
              go_wp2
              exact ⟨⟨k + 1, m + nq, by go_num, by omega, by simp [World.drewN], NX⟩, by simp [intOf]; omega⟩
            · have hyxi : ¬ (y : Int) ≤ (x : Int) := by omega
              go_wp2_with fail
              go_quiet (fail)
              have HIN : Hid (ins x O = O.take k ++ [x] ++ O.drop k) := ins_at x O k (by rw [HO.out.2]; exact hk) HK.out (fun h => by rw [HY.out]; omega)
              have HN1 : Hid (∀ j u, (icells (O.take k))[j]? = some u → (wr.drewN (m + nq)).cell? ((⟨g, 0, none⟩ : Addr).add j) = some u) := fun j u hu => by
                have hjk : j < k := by
                  rcases Nat.lt_or_ge j k with h | h
                  · exact h
                  · rw [List.getElem?_eq_none (by rw [icells_length, List.length_take, HO.out.2]; omega)] at hu; simp at hu
                rw [add_zero_addr]
                have := HCE.out j (by omega)
                unfold icells at hu
                rw [List.getElem?_map, List.getElem?_take, if_pos hjk, List.getElem?_eq_getElem (by rw [HO.out.2]; omega)] at hu
                simp at hu
                rw [← hu, ← getD_in (z := 0) (by rw [HO.out.2]; omega)]
                exact this
              have HL1 : Hid ((icells (O.take k)).length = k * 1) := by show _ = _; rw [icells_length, List.length_take, HO.out.2]; omega
              go_wp2_with (at_builtin; refine wpList_append_own _ rfl _ _ 22 rfl wr.heap.size 3 i0 (.int .i64 0) 1 8 Try.underlying22 HI.out.1 HI.out.2.1 HI.out.2.2.1 HI.out.2.2.2 rfl (by decide) (.slice none 0 0) 0 [] rfl (World.ownsRow_nil _ _ _ _) ⟨g, 0, none⟩ k cap (icells (O.take k)) rfl HL1.out HN1.out (one_icells _) (by unfold maxLen; omega) (by omega) (by simp) ?_)
              intro V1 w1 hown1 hgrow1 hiff1
              have hown1 : w1.ownsRow wr.heap.size 3 1 V1 k (icells (O.take k)) := by simpa using hown1
              have hb1 : Below wr.heap.size wr w1 := ⟨hgrow1.os, hgrow1.tape, hgrow1.output, hgrow1.size, fun j hj => hgrow1.block j hj (by simp [Value.ownBlock])⟩
              have cx1 := HX.out w1 hb1
              have HB1 : Hid (Below wr.heap.size wr w1) := hb1
              have HO2 : Hid (∀ o, (w1.alloc o).ownsRow wr.heap.size 3 1 V1 k (icells (O.take k)) ∧ wr.heap.size ≤ (w1.alloc o).heap.size) := fun o => ⟨hown1.alloc o, by have := hb1.size; simp; omega⟩
              clear hown1 hgrow1 hiff1 hb1 HN1 HL1
              go_wp2_with (at_builtin; refine wpList_append_lies _ rfl _ _ 22 rfl wr.heap.size 3 i0 (.int .i64 0) 1 8 Try.underlying22 HI.out.1 HI.out.2.1 HI.out.2.2.1 HI.out.2.2.2 rfl (by decide) V1 k (icells (O.take k)) rfl (HO2.out _).1 ⟨w1.heap.size, 0, none⟩ 1 1 [.int .i64 (x : Int)] rfl rfl (news1 w1 _ _) (one1 _) (by decide) (by unfold maxLen; omega) (by omega) (HO2.out _).2 _ rfl ?_)
              intro g2 cap2 w2 hown2 hgrow2 hat2 hgl2
              have hb2 : Below wr.heap.size wr w2 := (HB1.out.alloc HB1.out.size _).trans (below_grown (HO2.out _).1 hgrow2 (HO2.out _).2)
              have HB2 : Hid (Below wr.heap.size wr w2) := hb2
              have HO3 : Hid (w2.ownsRow wr.heap.size 3 1 (.slice (some ⟨g2, 0, none⟩) (k + 1) cap2) (k + 1) (icells (O.take k) ++ [.int .i64 (x : Int)])) := hown2
              have HN3 : Hid (∀ j u, (icells (O.drop k))[j]? = some u → w2.cell? ((⟨g, k, none⟩ : Addr).add j) = some u) := fun j u hu => by
                have hjk : k + j < i := by
                  rcases Nat.lt_or_ge (k + j) i with h | h
                  · exact h
                  · rw [List.getElem?_eq_none (by rw [icells_length, List.length_drop, HO.out.2]; omega)] at hu; simp at hu
                rw [add_addr, hb2.cell HG.out]
                have := HCE.out (k + j) hjk
                unfold icells at hu
                rw [List.getElem?_map, List.getElem?_drop, List.getElem?_eq_getElem (by rw [HO.out.2]; omega)] at hu
                simp at hu
                rw [← hu, ← getD_in (z := 0) (by rw [HO.out.2]; omega)]
                exact this
              have HL3 : Hid ((icells (O.drop k)).length = (i - k) * 1 ∧ k + 1 + (i - k) = i + 1) := ⟨by rw [icells_length, List.length_drop, HO.out.2]; omega, by omega⟩
              have hik : (i : Int) - (k : Int) = ((i - k : Nat) : Int) := by omega
              have hck : (cap : Int) - (k : Int) = ((cap - k : Nat) : Int) := by omega
              clear hown2 hgrow2 hat2 hgl2 hb2 HO2 cx1
              by_cases hcapk : cap = k
              · have hik0 : i = k := by omega
                have HD : Hid (O.drop k = []) := List.drop_eq_nil_of_le (by rw [HO.out.2]; omega)
                subst hcapk
                subst hik0
                go_wp2_with (at_builtin; (refine wpList_append_own _ rfl _ _ 22 rfl wr.heap.size 3 i0 (.int .i64 0) 1 8 Try.underlying22 HI.out.1 HI.out.2.1 HI.out.2.2.1 HI.out.2.2.2 rfl (by decide) (.slice (some ⟨g2, 0, none⟩) (i + 1) cap2) (i + 1) _ rfl HO3.out ⟨g, 0, none⟩ 0 0 [] rfl rfl (fun j u hu => by simp at hu) (fun u hu => by simp at hu) (by unfold maxLen; omega) (by omega) HB2.out.size ?_))
                intro V3 w3 hown3 hgrow3 hiff3
                have HE : Hid (RisSt w w3 xs (i + 1) (i + 1) V3) := by
                  have hb3 : Below wr.heap.size wr w3 := HB2.out.trans (below_grown HO3.out hgrow3 HB2.out.size)
                  refine ⟨?_, by rw [isort_len, List.length_take, HN.out]; omega, HS.out.bel.trans (hb3.mono hB)⟩
                  rw [HO.out.1, HIN.out, HD.out]
                  have h := owns_weak hown3 hB
                  have e : icells (O.take i ++ [x] ++ []) = icells (O.take i) ++ [.int .i64 (x : Int)] := by simp [icells]
                  rw [e]
                  simpa using h
                clear hown3 hgrow3 hiff3
                go_wp2
                exact ⟨⟨i + 1, _, rfl, by go_num, by omega, HE⟩, by simp [intOf]; omega⟩
              · go_wp2_with (at_builtin; (refine wpList_append_own _ rfl _ _ 22 rfl wr.heap.size 3 i0 (.int .i64 0) 1 8 Try.underlying22 HI.out.1 HI.out.2.1 HI.out.2.2.1 HI.out.2.2.2 rfl (by decide) (.slice (some ⟨g2, 0, none⟩) (k + 1) cap2) (k + 1) _ rfl HO3.out ⟨g, k, none⟩ (i - k) (cap - k) (icells (O.drop k)) rfl HL3.out.1 HN3.out (one_icells _) (by unfold maxLen; omega) (by omega) HB2.out.size ?_))
                intro V3 w3 hown3 hgrow3 hiff3
                have HE : Hid (RisSt w w3 xs (i + 1) (i + 1) V3) := by
                  have hb3 : Below wr.heap.size wr w3 := HB2.out.trans (below_grown HO3.out hgrow3 HB2.out.size)
                  refine ⟨?_, by rw [isort_len, List.length_take, HN.out]; omega, HS.out.bel.trans (hb3.mono hB)⟩
                  rw [HO.out.1, HIN.out]
                  have h := owns_weak hown3 hB
                  have e : icells (O.take k ++ [x] ++ O.drop k) = icells (O.take k) ++ .int .i64 (x : Int) :: icells (O.drop k) := by simp [icells]
                  rw [e]
                  rw [HL3.out.2] at h
                  exact h
                clear hown3 hgrow3 hiff3
                go_wp2
                exact ⟨⟨i + 1, _, rfl, by go_num, by omega, HE⟩, by simp [intOf]; omega⟩
          · have hlki : ¬ (k : Int) < (i : Int) := by omega
            go_wp2_with fail
            go_quiet (fail)
            have HIN : Hid (ins x O = O.take k ++ [x] ++ O.drop k) := ins_at x O k (by rw [HO.out.2]; exact hk) HK.out (fun h => by rw [HO.out.2] at h; omega)
            have HN1 : Hid (∀ j u, (icells (O.take k))[j]? = some u → (wr.drewN (m + nq)).cell? ((⟨g, 0, none⟩ : Addr).add j) = some u) := fun j u hu => by
              have hjk : j < k := by
                rcases Nat.lt_or_ge j k with h | h
                · exact h
                · rw [List.getElem?_eq_none (by rw [icells_length, List.length_take, HO.out.2]; omega)] at hu; simp at hu
              rw [add_zero_addr]
              have := HCE.out j (by omega)
              unfold icells at hu
              rw [List.getElem?_map, List.getElem?_take, if_pos hjk, List.getElem?_eq_getElem (by rw [HO.out.2]; omega)] at hu
              simp at hu
              rw [← hu, ← getD_in (z := 0) (by rw [HO.out.2]; omega)]
              exact this
            have HL1 : Hid ((icells (O.take k)).length = k * 1) := by show _ = _; rw [icells_length, List.length_take, HO.out.2]; omega
            go_wp2_with (at_builtin; refine wpList_append_own _ rfl _ _ 22 rfl wr.heap.size 3 i0 (.int .i64 0) 1 8 Try.underlying22 HI.out.1 HI.out.2.1 HI.out.2.2.1 HI.out.2.2.2 rfl (by decide) (.slice none 0 0) 0 [] rfl (World.ownsRow_nil _ _ _ _) ⟨g, 0, none⟩ k cap (icells (O.take k)) rfl HL1.out HN1.out (one_icells _) (by unfold maxLen; omega) (by omega) (by simp) ?_)
            intro V1 w1 hown1 hgrow1 hiff1
            have hown1 : w1.ownsRow wr.heap.size 3 1 V1 k (icells (O.take k)) := by simpa using hown1
            have hb1 : Below wr.heap.size wr w1 := ⟨hgrow1.os, hgrow1.tape, hgrow1.output, hgrow1.size, fun j hj => hgrow1.block j hj (by simp [Value.ownBlock])⟩
            have cx1 := HX.out w1 hb1
            have HB1 : Hid (Below wr.heap.size wr w1) := hb1
            have HO2 : Hid (∀ o, (w1.alloc o).ownsRow wr.heap.size 3 1 V1 k (icells (O.take k)) ∧ wr.heap.size ≤ (w1.alloc o).heap.size) := fun o => ⟨hown1.alloc o, by have := hb1.size; simp; omega⟩
            clear hown1 hgrow1 hiff1 hb1 HN1 HL1
            go_wp2_with (at_builtin; refine wpList_append_lies _ rfl _ _ 22 rfl wr.heap.size 3 i0 (.int .i64 0) 1 8 Try.underlying22 HI.out.1 HI.out.2.1 HI.out.2.2.1 HI.out.2.2.2 rfl (by decide) V1 k (icells (O.take k)) rfl (HO2.out _).1 ⟨w1.heap.size, 0, none⟩ 1 1 [.int .i64 (x : Int)] rfl rfl (news1 w1 _ _) (one1 _) (by decide) (by unfold maxLen; omega) (by omega) (HO2.out _).2 _ rfl ?_)
            intro g2 cap2 w2 hown2 hgrow2 hat2 hgl2
            have hb2 : Below wr.heap.size wr w2 := (HB1.out.alloc HB1.out.size _).trans (below_grown (HO2.out _).1 hgrow2 (HO2.out _).2)
            have HB2 : Hid (Below wr.heap.size wr w2) := hb2
            have HO3 : Hid (w2.ownsRow wr.heap.size 3 1 (.slice (some ⟨g2, 0, none⟩) (k + 1) cap2) (k + 1) (icells (O.take k) ++ [.int .i64 (x : Int)])) := hown2
            have HN3 : Hid (∀ j u, (icells (O.drop k))[j]? = some u → w2.cell? ((⟨g, k, none⟩ : Addr).add j) = some u) := fun j u hu => by
              have hjk : k + j < i := by
                rcases Nat.lt_or_ge (k + j) i with h | h
                · exact h
                · rw [List.getElem?_eq_none (by rw [icells_length, List.length_drop, HO.out.2]; omega)] at hu; simp at hu
              rw [add_addr, hb2.cell HG.out]
              have := HCE.out (k + j) hjk
              unfold icells at hu
              rw [List.getElem?_map, List.getElem?_drop, List.getElem?_eq_getElem (by rw [HO.out.2]; omega)] at hu
              simp at hu
              rw [← hu, ← getD_in (z := 0) (by rw [HO.out.2]; omega)]
              exact this
            have HL3 : Hid ((icells (O.drop k)).length = (i - k) * 1 ∧ k + 1 + (i - k) = i + 1) := ⟨by rw [icells_length, List.length_drop, HO.out.2]; omega, by omega⟩
            have hik : (i : Int) - (k : Int) = ((i - k : Nat) : Int) := by omega
            have hck : (cap : Int) - (k : Int) = ((cap - k : Nat) : Int) := by omega
            clear hown2 hgrow2 hat2 hgl2 hb2 HO2 cx1
            by_cases hcapk : cap = k
            · have hik0 : i = k := by omega
              have HD : Hid (O.drop k = []) := List.drop_eq_nil_of_le (by rw [HO.out.2]; omega)
              subst hcapk
              subst hik0
              go_wp2_with (at_builtin; (refine wpList_append_own _ rfl _ _ 22 rfl wr.heap.size 3 i0 (.int .i64 0) 1 8 Try.underlying22 HI.out.1 HI.out.2.1 HI.out.2.2.1 HI.out.2.2.2 rfl (by decide) (.slice (some ⟨g2, 0, none⟩) (i + 1) cap2) (i + 1) _ rfl HO3.out ⟨g, 0, none⟩ 0 0 [] rfl rfl (fun j u hu => by simp at hu) (fun u hu => by simp at hu) (by unfold maxLen; omega) (by omega) HB2.out.size ?_))
              intro V3 w3 hown3 hgrow3 hiff3
              have HE : Hid (RisSt w w3 xs (i + 1) (i + 1) V3) := by
                have hb3 : Below wr.heap.size wr w3 := HB2.out.trans (below_grown HO3.out hgrow3 HB2.out.size)
                refine ⟨?_, by rw [isort_len, List.length_take, HN.out]; omega, HS.out.bel.trans (hb3.mono hB)⟩
                rw [HO.out.1, HIN.out, HD.out]
                have h := owns_weak hown3 hB
                have e : icells (O.take i ++ [x] ++ []) = icells (O.take i) ++ [.int .i64 (x : Int)] := by simp [icells]
                rw [e]
                simpa using h
              clear hown3 hgrow3 hiff3
              go_wp2
              exact ⟨⟨i + 1, _, rfl, by go_num, by omega, HE⟩, by simp [intOf]; omega⟩
            · go_wp2_with (at_builtin; (refine wpList_append_own _ rfl _ _ 22 rfl wr.heap.size 3 i0 (.int .i64 0) 1 8 Try.underlying22 HI.out.1 HI.out.2.1 HI.out.2.2.1 HI.out.2.2.2 rfl (by decide) (.slice (some ⟨g2, 0, none⟩) (k + 1) cap2) (k + 1) _ rfl HO3.out ⟨g, k, none⟩ (i - k) (cap - k) (icells (O.drop k)) rfl HL3.out.1 HN3.out (one_icells _) (by unfold maxLen; omega) (by omega) HB2.out.size ?_))
              intro V3 w3 hown3 hgrow3 hiff3
              have HE : Hid (RisSt w w3 xs (i + 1) (i + 1) V3) := by
                have hb3 : Below wr.heap.size wr w3 := HB2.out.trans (below_grown HO3.out hgrow3 HB2.out.size)
                refine ⟨?_, by rw [isort_len, List.length_take, HN.out]; omega, HS.out.bel.trans (hb3.mono hB)⟩
                rw [HO.out.1, HIN.out]
                have h := owns_weak hown3 hB
                have e : icells (O.take k ++ [x] ++ O.drop k) = icells (O.take k) ++ .int .i64 (x : Int) :: icells (O.drop k) := by simp [icells]
                rw [e]
                rw [HL3.out.2] at h
                exact h
              clear hown3 hgrow3 hiff3
              go_wp2
              exact ⟨⟨i + 1, _, rfl, by go_num, by omega, HE⟩, by simp [intOf]; omega⟩
    · obtain rfl : i = N := by omega
      have hlti : ¬ (i : Int) < (i : Int) := by omega
      go_wp2
      go_ret
      exact ⟨V, rfl, HS.out⟩
end Go.Proofs.Ytklipommocijaaa
