/- Layer 5: a block that tells its codes is written. -/
import Derived.Test.YtlbadjfcffoakaaDoorV37
namespace Go.Proofs.YtlbadjfcffoakaaDoor
open Go.RowKit
set_option linter.unusedVariables false
set_option maxRecDepth 20000

theorem OrdAt.low {w w' : World} {b : Nat} (h : OrdAt w) (hb : Below b w w') (h0 : 0 < b) : OrdAt w' := fun i hi => by
  rw [World.cell?_of_block (w := w) (hb.block 0 h0)]; exact h i hi
theorem LB.kept {w w' : World} {b g N : Nat} {L : List Nat} {f : Nat → Nat} (h : LB w g N f) (hf : PF b w w') (hw : PW w b L) : LB w' g N f := hf.kept hw h (by decide) (by decide)
theorem TC.kept {T : List (Nat × Nat × Nat)} {c1 c2 cf : Nat → Nat} {m1 m2 nf A1 A2 A3 b : Nat} {ao : Option Addr} {w w' : World} {L : List Nat} (h : TC T c1 c2 cf m1 m2 nf A1 A2 A3 ao w) (hf : PF b w w') (hw : PW w b L) : TC T c1 c2 cf m1 m2 nf A1 A2 A3 ao w' :=
  { h with r1 := h.r1.kept hf hw, r2 := h.r2.kept hf hw, r3 := h.r3.kept hf hw, pie := h.pie.kept hf hw }
theorem TC.below {T : List (Nat × Nat × Nat)} {c1 c2 cf : Nat → Nat} {m1 m2 nf A1 A2 A3 : Nat} {ao : Option Addr} {w w' : World} (h : TC T c1 c2 cf m1 m2 nf A1 A2 A3 ao w) (hb : Below w.heap.size w w') : TC T c1 c2 cf m1 m2 nf A1 A2 A3 ao w' :=
  { h with r1 := h.r1.below hb, r2 := h.r2.below hb, r3 := h.r3.below hb, pie := h.pie.below hb }
structure TX (w0 : World) (b U V : Nat) (s1 s2 s3 s4 s5 : Value) (ao pao : Option Addr) (T : List (Nat × Nat × Nat)) (c1 c2 cf : Nat → Nat) (m1 m2 nf A1 A2 A3 : Nat) (O : List Nat) (w : World) : Prop where
  box : w.heap[U]? = some (.cells #[.pointer (some ⟨b, 0, none⟩)] 51 (0, 0))
  by_ : w.heap[V]? = some (.cells #[s1, s2, s3, s4, s5] 95 (0, 0))
  pw : PW w b O
  pf : PF b w0 w
  tok : TokR w ao T
  tc : TC T c1 c2 cf m1 m2 nf A1 A2 A3 pao w
  ord : OrdAt w
variable {w0 w w' : World} {b U V : Nat} {s1 s2 s3 s4 s5 : Value} {ao pao : Option Addr} {T : List (Nat × Nat × Nat)} {c1 c2 cf : Nat → Nat} {m1 m2 nf A1 A2 A3 : Nat} {O O' : List Nat}
theorem TX.step (h : TX w0 b U V s1 s2 s3 s4 s5 ao pao T c1 c2 cf m1 m2 nf A1 A2 A3 O w) (hw : PW w' b O') (hf : PF b w w') (h0 : 0 < b) : TX w0 b U V s1 s2 s3 s4 s5 ao pao T c1 c2 cf m1 m2 nf A1 A2 A3 O' w' :=
  ⟨hf.kept h.pw h.box (by decide) (by decide), hf.kept h.pw h.by_ (by decide) (by decide), hw, h.pf.trans hf, h.tok.kept hf h.pw, h.tc.kept hf h.pw, h.ord.low (hf.lower (Nat.le_of_lt h.pw.lt)) h0⟩
theorem TX.quiet (h : TX w0 b U V s1 s2 s3 s4 s5 ao pao T c1 c2 cf m1 m2 nf A1 A2 A3 O w) (hb : Below w.heap.size w w') (h0 : 0 < b) : TX w0 b U V s1 s2 s3 s4 s5 ao pao T c1 c2 cf m1 m2 nf A1 A2 A3 O w' := h.step (WS.below h.pw hb) (PF.below hb) h0
theorem TX.cells (h : TX w0 b U V s1 s2 s3 s4 s5 ao pao T c1 c2 cf m1 m2 nf A1 A2 A3 O w) : w.cell? ⟨U, 0, none⟩ = some (.pointer (some ⟨b, 0, none⟩)) ∧ w.cell? ⟨V, 0, none⟩ = some s1 ∧ w.cell? ⟨V, 1, none⟩ = some s2 ∧ w.cell? ⟨V, 2, none⟩ = some s3 ∧ w.cell? ⟨V, 3, none⟩ = some s4 ∧ w.cell? ⟨V, 4, none⟩ = some s5 := by
  have h1 := h.box
  have h2 := h.by_
  exact ⟨by simp [World.cell?, h1], by simp [World.cell?, h2], by simp [World.cell?, h2], by simp [World.cell?, h2], by simp [World.cell?, h2], by simp [World.cell?, h2]⟩
theorem pieBits_length {ns : List Nat} : ∀ {P : List (Nat × Nat × Nat)}, (∀ q ∈ P, Cod ns q.1 ∧ q.2.2 ≤ 7) → (pieBits ns P).length ≤ 22 * P.length
  | [], _ => by simp [pieBits]
  | q :: P, h => by
    have h1 := pieBits_length (ns := ns) (P := P) (fun x hx => h x (List.mem_cons_of_mem _ hx))
    have h2 := h q (List.mem_cons_self ..)
    have h3 := h2.1.2.2.1
    have e : pieBits ns (q :: P) = pieB ns q ++ pieBits ns P := rfl
    rw [e, List.length_append, pieB_length, List.length_cons]
    omega
set_option maxHeartbeats 8000000 in
theorem ptold (b : Nat) (L : List Nat) (T : List (Nat × Nat × Nat)) (ao pao : Option Addr) (cp pc : Nat) (c1 c2 cf : Nat → Nat) (m1 m2 nf A1 A2 A3 : Nat) (last : Bool) (w : World) (hT : TokR w ao T) (hTl : T.length ≤ 1048576) (hfin : ∀ t ∈ T, Fine t) (hne : T ≠ []) (hc : TC T c1 c2 cf m1 m2 nf A1 A2 A3 pao w) (ho : OrdAt w) (h0 : 0 < b) (hL : L.length ≤ 1099511000000) (hw : PW w b L) :
    Calls Tryd.prog 49 #[pkV b, .slice ao T.length cp, .agg #[.slice (some ⟨A1, 0, none⟩) m1 288, .slice (some ⟨A2, 0, none⟩) m2 30, .slice pao (bothP c1 c2 m1 m2).length pc, .slice (some ⟨A3, 0, none⟩) 19 19, .int .i64 (nf : Nat)], .bool last] w fun e w' => e = .returned (.tuple #[]) ∧ PW w' b (toldB L (lrow c1 m1) (lrow c2 m2) (lrow cf 19) nf (bothP c1 c2 m1 m2) T last) ∧ PF b w w' := by
  have hk := hc.tc hne
  obtain ⟨PL, hPL⟩ : ∃ PL, bothP c1 c2 m1 m2 = PL := ⟨_, rfl⟩
  obtain ⟨N, hN⟩ : ∃ N, T.length = N := ⟨_, rfl⟩
  obtain ⟨NP, hNP⟩ : ∃ N, PL.length = N := ⟨_, rfl⟩
  have hm1 : 257 ≤ m1 ∧ m1 ≤ 286 := by have := hk.cl; rwa [lrow_length] at this
  have hm2 : 1 ≤ m2 ∧ m2 ≤ 30 := hc.m2b
  have hnf : 4 ≤ nf ∧ nf ≤ 19 := hc.nfb
  obtain ⟨a1, ha1⟩ : ∃ a, m1 - 257 = a := ⟨_, rfl⟩
  obtain ⟨a2, ha2⟩ : ∃ a, m2 - 1 = a := ⟨_, rfl⟩
  obtain ⟨a3, ha3⟩ : ∃ a, nf - 4 = a := ⟨_, rfl⟩
  obtain ⟨O1, hO1⟩ : ∃ O, L ++ headB 2 last = O := ⟨_, rfl⟩
  obtain ⟨O2, hO2⟩ : ∃ O, O1 ++ bitsOf a1 5 = O := ⟨_, rfl⟩
  obtain ⟨O3, hO3⟩ : ∃ O, O2 ++ bitsOf a2 5 = O := ⟨_, rfl⟩
  obtain ⟨O4, hO4⟩ : ∃ O, O3 ++ bitsOf a3 4 = O := ⟨_, rfl⟩
  obtain ⟨O5, hO5⟩ : ∃ O, O4 ++ fstB (lrow cf 19) nf = O := ⟨_, rfl⟩
  obtain ⟨O6, hO6⟩ : ∃ O, O5 ++ pieBits (lrow cf 19) PL = O := ⟨_, rfl⟩
  have n1 : O1.length = L.length + 3 := by rw [← hO1, List.length_append, headB_length]
  have n2 : O2.length = O1.length + 5 := by rw [← hO2, List.length_append, bitsOf_length]
  have n3 : O3.length = O2.length + 5 := by rw [← hO3, List.length_append, bitsOf_length]
  have n4 : O4.length = O3.length + 4 := by rw [← hO4, List.length_append, bitsOf_length]
  have n5 : O5.length = O4.length + 3 * nf := by rw [← hO5, List.length_append, fstB_length]
  have hcod : ∀ q ∈ PL, Cod (lrow cf 19) q.1 ∧ q.2.2 ≤ 7 := fun q hq => ⟨hk.cod q (by rw [hPL]; exact hq), (hc.small q (by rw [hPL]; exact hq)).2⟩
  have hplen : PL.length ≤ 318 := by rw [← hPL]; exact hc.len
  have n6 : O6.length ≤ O5.length + 6996 := by
    rw [← hO6, List.length_append]
    have := pieBits_length hcod
    omega
  have hpk : ∀ q ∈ PL, PieOK q := fun q hq => hk.says.ok q (by rw [hPL]; exact hq)
  have HE : Hid (toldB L (lrow c1 m1) (lrow c2 m2) (lrow cf 19) nf PL T last = O6 ++ (tokBits (lrow c1 m1) (lrow c2 m2) T ++ symB (lrow c1 m1) 256)) := by
    show _ = _
    unfold toldB
    rw [lrow_length, lrow_length, ha1, ha2, ha3, hO1, hO2, hO3, hO4, hO5, hO6]
  obtain ⟨W, hW⟩ : ∃ W, (w.alloc (.cells #[.pointer (some ⟨b, 0, none⟩)] 51)).alloc (.cells #[.slice (some ⟨A1, 0, none⟩) m1 288, .slice (some ⟨A2, 0, none⟩) m2 30, .slice pao NP pc, .slice (some ⟨A3, 0, none⟩) 19 19, .int .i64 (nf : Nat)] 95) = W := ⟨_, rfl⟩
  have hbel : Below w.heap.size w W := by rw [← hW]; exact ((Below.refl _ _).alloc (Nat.le_refl _) _).alloc (by simp) _
  obtain ⟨U, hU⟩ : ∃ U, w.heap.size = U := ⟨_, rfl⟩
  have hb0 : W.heap[U]? = some (.cells #[.pointer (some ⟨b, 0, none⟩)] 51 (0, 0)) := by rw [← hW, heap_alloc_old _ _ (by simp; omega), ← hU]; exact heap_alloc_new _ _
  have hb1 : W.heap[U + 1]? = some (.cells #[.slice (some ⟨A1, 0, none⟩) m1 288, .slice (some ⟨A2, 0, none⟩) m2 30, .slice pao NP pc, .slice (some ⟨A3, 0, none⟩) 19 19, .int .i64 (nf : Nat)] 95 (0, 0)) := by
    rw [← hW]
    have := heap_alloc_new (w.alloc (.cells #[.pointer (some ⟨b, 0, none⟩)] 51)) (.cells #[.slice (some ⟨A1, 0, none⟩) m1 288, .slice (some ⟨A2, 0, none⟩) m2 30, .slice pao NP pc, .slice (some ⟨A3, 0, none⟩) 19 19, .int .i64 (nf : Nat)] 95)
    rw [show (w.alloc (.cells #[.pointer (some ⟨b, 0, none⟩)] 51)).heap.size = U + 1 by simp; omega] at this
    exact this
  obtain ⟨V, hV⟩ : ∃ V, U + 1 = V := ⟨_, rfl⟩
  rw [hV] at hb1
  obtain ⟨S3, hS3⟩ : ∃ S : Value, .slice pao NP pc = S := ⟨_, rfl⟩
  have H1 : Hid (TX w b U V (.slice (some ⟨A1, 0, none⟩) m1 288) (.slice (some ⟨A2, 0, none⟩) m2 30) (.slice pao NP pc) (.slice (some ⟨A3, 0, none⟩) 19 19) (.int .i64 (nf : Nat)) ao pao T c1 c2 cf m1 m2 nf A1 A2 A3 L W) := ⟨hb0, hb1, WS.below hw hbel, PF.below hbel, hT.below hbel, hc.below hbel, ho.below hbel⟩
  have HH0 : Hid (0 < b) := h0
  have HC1 : Hid (∀ W', PW W' b L → Calls Tryd.prog 34 #[.agg #[.pointer (some ⟨b, 0, none⟩)], .int .i64 2, .bool last] W' fun e w' => e = .returned (.tuple #[]) ∧ PW w' b O1 ∧ PF b W' w') := fun W' h => by rw [← hO1]; exact phead b L 2 last W' (by omega) (by omega) h
  have HC2 : Hid (∀ W', PW W' b O1 → Calls Tryd.prog 36 #[.pointer (some ⟨b, 0, none⟩), .int .i64 (a1 : Nat), .int .i64 5] W' fun e w' => e = .returned (.int .i64 0) ∧ PW w' b O2 ∧ PF b W' w') := fun W' h => by rw [← hO2]; exact pbits b O1 a1 5 W' (by omega) (by omega) (by omega) h
  have HC3 : Hid (∀ W', PW W' b O2 → Calls Tryd.prog 36 #[.pointer (some ⟨b, 0, none⟩), .int .i64 (a2 : Nat), .int .i64 5] W' fun e w' => e = .returned (.int .i64 0) ∧ PW w' b O3 ∧ PF b W' w') := fun W' h => by rw [← hO3]; exact pbits b O2 a2 5 W' (by omega) (by omega) (by omega) h
  have HC4 : Hid (∀ W', PW W' b O3 → Calls Tryd.prog 36 #[.pointer (some ⟨b, 0, none⟩), .int .i64 (a3 : Nat), .int .i64 4] W' fun e w' => e = .returned (.int .i64 0) ∧ PW w' b O4 ∧ PF b W' w') := fun W' h => by rw [← hO4]; exact pbits b O3 a3 4 W' (by omega) (by omega) (by omega) h
  have HC5 : Hid (∀ W' k, k < nf → PW W' b (O4 ++ fstB (lrow cf 19) k) → Calls Tryd.prog 36 #[.pointer (some ⟨b, 0, none⟩), .int .i64 (cf (ordL.getD k 0) : Nat), .int .i64 3] W' fun e w' => e = .returned (.int .i64 0) ∧ PW w' b (O4 ++ fstB (lrow cf 19) (k + 1)) ∧ PF b W' w') := fun W' k hk' h => by
    have e : O4 ++ fstB (lrow cf 19) (k + 1) = (O4 ++ fstB (lrow cf 19) k) ++ bitsOf (cf (ordL.getD k 0)) 3 := by
      rw [fstB, lrow_get cf (ord_lt k (by omega)), List.append_assoc]
    rw [e]
    have h8 := hk.f8 (ordL.getD k 0)
    rw [lrow_get cf (ord_lt k (by omega))] at h8
    exact pbits b _ _ 3 W' (by omega) (by omega) (by rw [List.length_append, fstB_length]; omega) h
  have HT1 : Hid (∀ W', LB W' A3 19 cf → Calls Tryd.prog 56 #[.slice (some ⟨A3, 0, none⟩) 19 19] W' fun e w' => TabEndT W' (inN (lrow cf 19)) e w') := fun W' h => newTableT_ok (inN (lrow cf 19)) _ 19 19 W' (by rw [inN_length, lrow_length]) (h.inRow (Nat.le_refl _)) (by omega)
  have HK3 : Hid (isCode0 (inN (lrow cf 19))) := hc.k3
  have HP : Hid (∀ W' i q lo hi t R, PL[i]? = some q → TabT W' lo hi t (lrow cf 19) R → hi ≤ W'.heap.size → PW W' b (O5 ++ pieBits (lrow cf 19) (PL.take i)) → Calls Tryd.prog 58 #[.agg #[.pointer (some ⟨b, 0, none⟩)], .pointer (some ⟨t, 0, none⟩), .agg #[.int .i64 (q.1 : Nat), .int .i64 (q.2.1 : Nat), .int .i64 (q.2.2 : Nat)]] W' fun e w' => e = .returned (.tuple #[]) ∧ PW w' b (O5 ++ pieBits (lrow cf 19) (PL.take (i + 1))) ∧ PF b W' w') := fun W' i q lo hi t R hq ht hh h => by
    have hmem : q ∈ PL := List.mem_of_getElem? hq
    have htake : PL.take (i + 1) = PL.take i ++ [q] := by rw [List.take_add_one, hq]; rfl
    have e : O5 ++ pieBits (lrow cf 19) (PL.take (i + 1)) = (O5 ++ pieBits (lrow cf 19) (PL.take i)) ++ (symB (lrow cf 19) q.1 ++ bitsOf q.2.1 q.2.2) := by
      rw [htake, pieBits_snoc, List.append_assoc]; rfl
    rw [e]
    have hl : (pieBits (lrow cf 19) (PL.take i)).length ≤ 22 * (PL.take i).length := pieBits_length (fun x hx => hcod x (List.mem_of_mem_take hx))
    have hl2 : (PL.take i).length ≤ 318 := by rw [List.length_take]; omega
    exact ppiece b lo hi t (lrow cf 19) R _ q W' ht hh (by rw [lrow_length]; omega) (hcod q hmem).1 (hpk q hmem).small.2.1 (by have := (hcod q hmem).2; omega) (by rw [List.length_append]; omega) h
  have HTK : Hid (∀ W', TX w b U V (.slice (some ⟨A1, 0, none⟩) m1 288) (.slice (some ⟨A2, 0, none⟩) m2 30) (.slice pao NP pc) (.slice (some ⟨A3, 0, none⟩) 19 19) (.int .i64 (nf : Nat)) ao pao T c1 c2 cf m1 m2 nf A1 A2 A3 O6 W' → Calls Tryd.prog 39 #[.agg #[.pointer (some ⟨b, 0, none⟩)], .slice ao N cp, .agg #[.slice (some ⟨A1, 0, none⟩) m1 288, .slice (some ⟨A2, 0, none⟩) m2 30]] W' fun e w' => e = .returned (.tuple #[]) ∧ PW w' b (O6 ++ (tokBits (lrow c1 m1) (lrow c2 m2) T ++ symB (lrow c1 m1) 256)) ∧ PF b W' w') := fun W' h => by
    have := ptokens b O6 (lrow c1 m1) (lrow c2 m2) T ao (some ⟨A1, 0, none⟩) (some ⟨A2, 0, none⟩) cp 288 30 W' h.tok hTl (h.tc.r1.inRow hc.m1b.2) (h.tc.r2.inRow hc.m2b.2) hc.k1 hc.k2 (by rw [lrow_length]; omega) (by rw [lrow_length]; omega) hc.has.1 hfin hc.has.2 (by omega) h.pw
    rw [lrow_length, lrow_length, hN] at this
    exact this
  have ha1i : (m1 : Int) - 257 = (a1 : Int) := by omega
  have ha2i : (m2 : Int) - 1 = (a2 : Int) := by omega
  have ha3i : (nf : Int) - 4 = (a3 : Int) := by omega
  have ha1w := D5.wrapN a1 (by omega)
  have ha2w := D5.wrapN a2 (by omega)
  have ha3w := D5.wrapN a3 (by omega)
  have HUV : Hid (w.heap.size = U ∧ w.heap.size + 1 = V) := ⟨hU, by omega⟩
  have HNP : Hid (PL.length = NP ∧ bothP c1 c2 m1 m2 = PL ∧ O5 = O4 ++ fstB (lrow cf 19) nf ∧ O6 = O5 ++ pieBits (lrow cf 19) PL ∧ U + 1 = V) := ⟨hNP, hPL, hO5.symm, hO6.symm, hV⟩
  have hNPb : NP ≤ 318 := by omega
  have hnfb : nf ≤ 19 := hnf.2
  unfold pkV
  rw [hPL, hN, hNP]
  clear hb0 hb1 hbel hw hT hc ho hk hfin hne hTl hN hNP hPL hm1 hm2 hnf ha1 ha2 ha3 hO1 hO2 hO3 hO4 hO5 hO6 n1 n2 n3 n4 n5 n6 hcod hplen hpk hL h0 hS3 hV hU
  obtain ⟨y0, y1, y2, y3, y4, y5⟩ := H1.out.cells
  go_enter Tryd.func49, Tryd.ntmps49
  go_upto_region 1 with fail
  try rw [hW]
  rw [HUV.out.2, HUV.out.1]
  clear hW
  go_wp2_with fail
  refine (HC1.out _ H1.out.pw).mono ?_
  rintro e w1 ⟨he, hw1, hf1⟩
  subst he
  have H2 : Hid (TX w b U V (.slice (some ⟨A1, 0, none⟩) m1 288) (.slice (some ⟨A2, 0, none⟩) m2 30) (.slice pao NP pc) (.slice (some ⟨A3, 0, none⟩) 19 19) (.int .i64 (nf : Nat)) ao pao T c1 c2 cf m1 m2 nf A1 A2 A3 O1 w1) := H1.out.step hw1 hf1 HH0.out
  clear hw1 hf1 y0 y1 y2 y3 y4 y5 H1 HC1
  obtain ⟨y0, y1, y2, y3, y4, y5⟩ := H2.out.cells
  go_wp2_with fail
  refine (HC2.out _ H2.out.pw).mono ?_
  rintro e w2 ⟨he, hw1, hf1⟩
  subst he
  have H3 : Hid (TX w b U V (.slice (some ⟨A1, 0, none⟩) m1 288) (.slice (some ⟨A2, 0, none⟩) m2 30) (.slice pao NP pc) (.slice (some ⟨A3, 0, none⟩) 19 19) (.int .i64 (nf : Nat)) ao pao T c1 c2 cf m1 m2 nf A1 A2 A3 O2 w2) := H2.out.step hw1 hf1 HH0.out
  clear hw1 hf1 y0 y1 y2 y3 y4 y5 H2 HC2
  obtain ⟨y0, y1, y2, y3, y4, y5⟩ := H3.out.cells
  go_wp2_with fail
  refine (HC3.out _ H3.out.pw).mono ?_
  rintro e w3 ⟨he, hw1, hf1⟩
  subst he
  have H4 : Hid (TX w b U V (.slice (some ⟨A1, 0, none⟩) m1 288) (.slice (some ⟨A2, 0, none⟩) m2 30) (.slice pao NP pc) (.slice (some ⟨A3, 0, none⟩) 19 19) (.int .i64 (nf : Nat)) ao pao T c1 c2 cf m1 m2 nf A1 A2 A3 O3 w3) := H3.out.step hw1 hf1 HH0.out
  clear hw1 hf1 y0 y1 y2 y3 y4 y5 H3 HC3
  obtain ⟨y0, y1, y2, y3, y4, y5⟩ := H4.out.cells
  go_wp2_with fail
  refine (HC4.out _ H4.out.pw).mono ?_
  rintro e w4 ⟨he, hw1, hf1⟩
  subst he
  have H5 : Hid (TX w b U V (.slice (some ⟨A1, 0, none⟩) m1 288) (.slice (some ⟨A2, 0, none⟩) m2 30) (.slice pao NP pc) (.slice (some ⟨A3, 0, none⟩) 19 19) (.int .i64 (nf : Nat)) ao pao T c1 c2 cf m1 m2 nf A1 A2 A3 O4 w4) := H4.out.step hw1 hf1 HH0.out
  clear hw1 hf1 y0 y1 y2 y3 y4 y5 H4 HC4
  obtain ⟨y0, y1, y2, y3, y4, y5⟩ := H5.out.cells
  clear ha1i ha2i ha3i ha1w ha2w ha3w
  go_upto_block 0 with fail
  clear y0 y1 y2 y3 y4 y5
  go_cut [] (fun wd => Hid (TX w b U V (.slice (some ⟨A1, 0, none⟩) m1 288) (.slice (some ⟨A2, 0, none⟩) m2 30) (.slice pao NP pc) (.slice (some ⟨A3, 0, none⟩) 19 19) (.int .i64 (nf : Nat)) ao pao T c1 c2 cf m1 m2 nf A1 A2 A3 O5 wd))
  case first =>
    as_aux_lemma =>
      go_wp2_with fail
      go_loopw [40] (fun v40 wr => ∃ k : Nat, v40 = .int .i64 (k : Nat) ∧ k ≤ nf ∧ Hid (TX w b U V (.slice (some ⟨A1, 0, none⟩) m1 288) (.slice (some ⟨A2, 0, none⟩) m2 30) (.slice pao NP pc) (.slice (some ⟨A3, 0, none⟩) 19 19) (.int .i64 (nf : Nat)) ao pao T c1 c2 cf m1 m2 nf A1 A2 A3 (O4 ++ fstB (lrow cf 19) k) wr)) (fun v40 _ => nf - (intOf v40).toNat)
      case atStart => exact ⟨0, rfl, Nat.zero_le _, by show TX _ _ _ _ _ _ _ _ _ _ _ _ _ _ _ _ _ _ _ _ _ (O4 ++ []) _; rw [List.append_nil]; exact H5.out⟩
      case round =>
        obtain ⟨k, rfl, hk', HR⟩ := hrel
        by_cases hlt : k < nf
        · have hlti : (k : Int) < (nf : Int) := by omega
          obtain ⟨y0, y1, y2, y3, y4, y5⟩ := HR.out.cells
          have c0 := HR.out.ord k (by omega)
          have HCK : Hid (∀ W', PW W' b (O4 ++ fstB (lrow cf 19) k) → Calls Tryd.prog 36 #[.pointer (some ⟨b, 0, none⟩), .int .i64 (cf (ordL.getD k 0) : Nat), .int .i64 3] W' fun e w' => e = .returned (.int .i64 0) ∧ PW w' b (O4 ++ fstB (lrow cf 19) (k + 1)) ∧ PF b W' w') := fun W' h => HC5.out W' k hlt h
          have ho19 := ord_lt k (by omega)
          have hk19 : (k : Int) < 19 := by omega
          obtain ⟨o, hoo⟩ : ∃ o, ordL.getD k 0 = o := ⟨_, rfl⟩
          rw [hoo] at c0 ho19 HCK
          have c1' := (HR.out.tc.r3.cell (i := o) ho19).1
          obtain ⟨x, hx⟩ : ∃ x, cf o = x := ⟨_, rfl⟩
          rw [hx] at c1' HCK
          have ho19i : (o : Int) < 19 := by omega
          have HKS : Hid (∀ W' O', TX w b U V (.slice (some ⟨A1, 0, none⟩) m1 288) (.slice (some ⟨A2, 0, none⟩) m2 30) (.slice pao NP pc) (.slice (some ⟨A3, 0, none⟩) 19 19) (.int .i64 (nf : Nat)) ao pao T c1 c2 cf m1 m2 nf A1 A2 A3 O' W' → W'.cell? ⟨U, 0, none⟩ = some (.pointer (some ⟨b, 0, none⟩)) ∧ W'.cell? ⟨V, 3, none⟩ = some (.slice (some ⟨A3, 0, none⟩) 19 19) ∧ W'.cell? ⟨0, k, none⟩ = some (.int .i64 (o : Nat)) ∧ W'.cell? ⟨A3, o, none⟩ = some (.int .i64 (x : Nat))) := fun W' O' h => ⟨h.cells.1, h.cells.2.2.2.2.1, by rw [← hoo]; exact h.ord k (by omega), by rw [← hx]; exact (h.tc.r3.cell (i := o) ho19).1⟩
          have HR2 : Hid (TX w b U V (.slice (some ⟨A1, 0, none⟩) m1 288) (.slice (some ⟨A2, 0, none⟩) m2 30) (.slice pao NP pc) (.slice (some ⟨A3, 0, none⟩) 19 19) (.int .i64 (nf : Nat)) ao pao T c1 c2 cf m1 m2 nf A1 A2 A3 (O4 ++ fstB (lrow cf 19) k) wr.drew) := HR.out.quiet ⟨rfl, rfl, rfl, Nat.le_refl _, fun _ _ => rfl⟩ HH0.out
          have HS0 : Hid (wr.drew.cell? ⟨U, 0, none⟩ = some (.pointer (some ⟨b, 0, none⟩)) ∧ wr.drew.cell? ⟨V, 3, none⟩ = some (.slice (some ⟨A3, 0, none⟩) 19 19) ∧ wr.drew.cell? ⟨0, k, none⟩ = some (.int .i64 (o : Nat)) ∧ wr.drew.cell? ⟨A3, o, none⟩ = some (.int .i64 (x : Nat))) := HKS.out _ _ HR2.out
          clear hoo hx ho19 y0 y1 y2 y3 y4 y5 c0 c1'
          go_upto_region 8 with fail
          go_region_held_law (fun w' => w'.cell? ⟨U, 0, none⟩ = some (.pointer (some ⟨b, 0, none⟩)) ∧ w'.cell? ⟨V, 3, none⟩ = some (.slice (some ⟨A3, 0, none⟩) 19 19) ∧ w'.cell? ⟨0, k, none⟩ = some (.int .i64 (o : Nat)) ∧ w'.cell? ⟨A3, o, none⟩ = some (.int .i64 (x : Nat)))
            (first | assumption | exact HS0.out | exact KS | go_keep)
            (first | (go_at_call 36; refine (HCK.out _ HR2.out.pw).mono ?_; rintro e w6 ⟨he, hw1, hf1⟩; subst he; have H6 : Hid (TX w b U V (.slice (some ⟨A1, 0, none⟩) m1 288) (.slice (some ⟨A2, 0, none⟩) m2 30) (.slice pao NP pc) (.slice (some ⟨A3, 0, none⟩) 19 19) (.int .i64 (nf : Nat)) ao pao T c1 c2 cf m1 m2 nf A1 A2 A3 (O4 ++ fstB (lrow cf 19) (k + 1)) w6) := HR2.out.step hw1 hf1 HH0.out; have KS := HKS.out _ _ H6.out; clear hw1 hf1))
          clear KS HS0 HKS HCK HR2 HR
          go_wp2
          exact ⟨⟨k + 1, by go_num, by omega, H6⟩, by simp [intOf]; omega⟩
        · have hkn : k = nf := by omega
          have hlti : ¬ (k : Int) < (nf : Int) := by omega
          have HE5 : Hid (TX w b U V (.slice (some ⟨A1, 0, none⟩) m1 288) (.slice (some ⟨A2, 0, none⟩) m2 30) (.slice pao NP pc) (.slice (some ⟨A3, 0, none⟩) 19 19) (.int .i64 (nf : Nat)) ao pao T c1 c2 cf m1 m2 nf A1 A2 A3 O5 wr) := by rw [HNP.out.2.2.1, ← hkn]; have h9 := HR.out; rw [← hkn] at h9; exact h9
          clear hkn
          go_wp2_with fail
          go_meet
          case rel => exact HE5.out
  case rest =>
    have H6 : Hid (TX w b U V (.slice (some ⟨A1, 0, none⟩) m1 288) (.slice (some ⟨A2, 0, none⟩) m2 30) (.slice pao NP pc) (.slice (some ⟨A3, 0, none⟩) 19 19) (.int .i64 (nf : Nat)) ao pao T c1 c2 cf m1 m2 nf A1 A2 A3 O5 wc) := hcut.out
    clear hcut H5 HC5
    obtain ⟨y0, y1, y2, y3, y4, y5⟩ := H6.out.cells
    go_wp2_with fail
    refine (HT1.out _ H6.out.tc.r3).mono ?_
    rintro e w7 ⟨h1, hb1⟩
    obtain ⟨_, t1, R1, he, ht1⟩ := h1.resolve_right (fun h => h.1 HK3.out)
    subst he
    rw [nsOf_inN] at ht1
    obtain ⟨lo, hlo⟩ : ∃ lo, wc.heap.size = lo := ⟨_, rfl⟩
    obtain ⟨hi, hhi⟩ : ∃ hi, w7.heap.size = hi := ⟨_, rfl⟩
    have H7 : Hid (TX w b U V (.slice (some ⟨A1, 0, none⟩) m1 288) (.slice (some ⟨A2, 0, none⟩) m2 30) (.slice pao NP pc) (.slice (some ⟨A3, 0, none⟩) 19 19) (.int .i64 (nf : Nat)) ao pao T c1 c2 cf m1 m2 nf A1 A2 A3 O5 w7 ∧ TabT w7 lo hi t1 (lrow cf 19) R1 ∧ hi ≤ w7.heap.size) := ⟨H6.out.quiet hb1 HH0.out, by rw [← hlo, ← hhi]; exact ht1, by omega⟩
    clear h1 hb1 ht1 hlo hhi H6 HT1 y0 y1 y2 y3 y4 y5
    obtain ⟨y0, y1, y2, y3, y4, y5⟩ := H7.out.1.cells
    go_upto_block 2 with fail
    clear y0 y1 y2 y3 y4 y5
    go_cut [] (fun wd => Hid (TX w b U V (.slice (some ⟨A1, 0, none⟩) m1 288) (.slice (some ⟨A2, 0, none⟩) m2 30) (.slice pao NP pc) (.slice (some ⟨A3, 0, none⟩) 19 19) (.int .i64 (nf : Nat)) ao pao T c1 c2 cf m1 m2 nf A1 A2 A3 O6 wd))
    case first =>
      as_aux_lemma =>
        go_wp2_with fail
        go_loopw [63] (fun v63 wr => ∃ k : Nat, v63 = .int .i64 (k : Nat) ∧ k ≤ NP ∧ Hid (TX w b U V (.slice (some ⟨A1, 0, none⟩) m1 288) (.slice (some ⟨A2, 0, none⟩) m2 30) (.slice pao NP pc) (.slice (some ⟨A3, 0, none⟩) 19 19) (.int .i64 (nf : Nat)) ao pao T c1 c2 cf m1 m2 nf A1 A2 A3 (O5 ++ pieBits (lrow cf 19) (PL.take k)) wr ∧ TabT wr lo hi t1 (lrow cf 19) R1 ∧ hi ≤ wr.heap.size)) (fun v63 _ => NP - (intOf v63).toNat)
        case atStart => exact ⟨0, rfl, Nat.zero_le _, by rw [List.take_zero]; show TX _ _ _ _ _ _ _ _ _ _ _ _ _ _ _ _ _ _ _ _ _ (O5 ++ []) _ ∧ _; rw [List.append_nil]; exact H7.out⟩
        case round =>
          obtain ⟨k, rfl, hk', HR⟩ := hrel
          by_cases hlt : k < NP
          · have hlti : (k : Int) < (NP : Int) := by omega
            obtain ⟨hNP, hPL, _, _, _⟩ := HNP.out
            have hiT : k < PL.length := by omega
            obtain ⟨q, hq⟩ : ∃ q, PL[k]? = some q := ⟨PL[k], List.getElem?_eq_getElem hiT⟩
            have hpie := HR.out.1.tc.pie
            rw [hPL] at hpie
            obtain ⟨gp, hpao, x0, x1, x2⟩ := hpie.at hq
            have HCK : Hid (∀ W', TabT W' lo hi t1 (lrow cf 19) R1 → hi ≤ W'.heap.size → PW W' b (O5 ++ pieBits (lrow cf 19) (PL.take k)) → Calls Tryd.prog 58 #[.agg #[.pointer (some ⟨b, 0, none⟩)], .pointer (some ⟨t1, 0, none⟩), .agg #[.int .i64 (q.1 : Nat), .int .i64 (q.2.1 : Nat), .int .i64 (q.2.2 : Nat)]] W' fun e w' => e = .returned (.tuple #[]) ∧ PW w' b (O5 ++ pieBits (lrow cf 19) (PL.take (k + 1))) ∧ PF b W' w') := fun W' h1 h2 h3 => HP.out W' k q lo hi t1 R1 hq h1 h2 h3
            obtain ⟨qa, qb, qc'⟩ := q
            simp only at x0 x1 x2 HCK
            obtain ⟨wt, hwt⟩ : ∃ wt, wr.alloc (.cells #[.int .i64 (qa : Nat), .int .i64 (qb : Nat), .int .i64 (qc' : Nat)] 115) = wt := ⟨_, rfl⟩
            have hbt : Below wr.heap.size wr wt := by rw [← hwt]; exact (Below.refl _ _).alloc (Nat.le_refl _) _
            have HQ : Hid (TX w b U V (.slice (some ⟨A1, 0, none⟩) m1 288) (.slice (some ⟨A2, 0, none⟩) m2 30) (.slice pao NP pc) (.slice (some ⟨A3, 0, none⟩) 19 19) (.int .i64 (nf : Nat)) ao pao T c1 c2 cf m1 m2 nf A1 A2 A3 (O5 ++ pieBits (lrow cf 19) (PL.take k)) wt ∧ TabT wt lo hi t1 (lrow cf 19) R1 ∧ hi ≤ wt.heap.size) := ⟨HR.out.1.quiet hbt HH0.out, HR.out.2.1.below HR.out.2.2 hbt, Nat.le_trans HR.out.2.2 hbt.size⟩
            have hnew := heap_alloc_new wr (.cells #[.int .i64 (qa : Nat), .int .i64 (qb : Nat), .int .i64 (qc' : Nat)] 115)
            obtain ⟨X, hX⟩ : ∃ X, wr.heap.size = X := ⟨_, rfl⟩
            rw [hwt, hX] at hnew
            have z0 : wt.cell? ⟨X, 0, none⟩ = some (.int .i64 (qa : Nat)) := by simp [World.cell?, hnew]
            have z1 : wt.cell? ⟨X, 1, none⟩ = some (.int .i64 (qb : Nat)) := by simp [World.cell?, hnew]
            have z2 : wt.cell? ⟨X, 2, none⟩ = some (.int .i64 (qc' : Nat)) := by simp [World.cell?, hnew]
            obtain ⟨y0, _, _, _, _, _⟩ := HQ.out.1.cells
            clear hNP hPL hiT hq hpie hbt hnew HR
            subst hpao
            go_wp2_with fail
            refine (HCK.out _ HQ.out.2.1 HQ.out.2.2 HQ.out.1.pw).mono ?_
            rintro e w8 ⟨he, hw1, hf1⟩
            subst he
            have H8 : Hid (TX w b U V (.slice (some ⟨A1, 0, none⟩) m1 288) (.slice (some ⟨A2, 0, none⟩) m2 30) (.slice (some ⟨gp, 0, none⟩) NP pc) (.slice (some ⟨A3, 0, none⟩) 19 19) (.int .i64 (nf : Nat)) ao (some ⟨gp, 0, none⟩) T c1 c2 cf m1 m2 nf A1 A2 A3 (O5 ++ pieBits (lrow cf 19) (PL.take (k + 1))) w8 ∧ TabT w8 lo hi t1 (lrow cf 19) R1 ∧ hi ≤ w8.heap.size) := ⟨HQ.out.1.step hw1 hf1 HH0.out, HQ.out.2.1.kept hf1 HQ.out.1.pw, Nat.le_trans HQ.out.2.2 hf1.size⟩
            clear hw1 hf1 z0 z1 z2 y0 HQ HCK x0 x1 x2
            go_wp2
            exact ⟨⟨k + 1, by go_num, by omega, H8⟩, by simp [intOf]; omega⟩
          · have hkn : k = NP := by omega
            have hlti : ¬ (k : Int) < (NP : Int) := by omega
            have HE6 : Hid (TX w b U V (.slice (some ⟨A1, 0, none⟩) m1 288) (.slice (some ⟨A2, 0, none⟩) m2 30) (.slice pao NP pc) (.slice (some ⟨A3, 0, none⟩) 19 19) (.int .i64 (nf : Nat)) ao pao T c1 c2 cf m1 m2 nf A1 A2 A3 O6 wr) := by
              have h9 := HR.out.1
              have e9 : PL.take k = PL := by rw [hkn, ← HNP.out.1, List.take_length]
              rw [e9] at h9
              rw [HNP.out.2.2.2.1]; exact h9
            clear hkn
            go_wp2_with fail
            go_meet
            case rel => exact HE6.out
    case rest =>
      have H8 : Hid (TX w b U V (.slice (some ⟨A1, 0, none⟩) m1 288) (.slice (some ⟨A2, 0, none⟩) m2 30) (.slice pao NP pc) (.slice (some ⟨A3, 0, none⟩) 19 19) (.int .i64 (nf : Nat)) ao pao T c1 c2 cf m1 m2 nf A1 A2 A3 O6 wc) := hcut.out
      clear hcut H7 HP
      obtain ⟨y0, y1, y2, y3, y4, y5⟩ := H8.out.cells
      go_wp2_with fail
      refine (HTK.out _ H8.out).mono ?_
      rintro e w9 ⟨he, hw1, hf1⟩
      subst he
      have H9 : Hid (PW w9 b (O6 ++ (tokBits (lrow c1 m1) (lrow c2 m2) T ++ symB (lrow c1 m1) 256)) ∧ PF b w w9) := ⟨hw1, H8.out.pf.trans hf1⟩
      clear hw1 hf1 y0 y1 y2 y3 y4 y5 HTK H8
      go_wp2
      go_end0
      rw [HE.out]
      exact ⟨rfl, H9.out⟩
end Go.Proofs.YtlbadjfcffoakaaDoor
