/- A block whose bytes are stored. -/
import Derived.Test.YtchjnfckcfikkaaDoorZc
import Derived.Lib.AppendStr
namespace Go.Proofs.YtchjnfckcfikkaaDoor
open Go.RowKit
set_option linter.unusedVariables false

/-- w' is w at the blocks of K. -/
structure UF (K : Nat → Prop) (w w' : World) : Prop where
  os : w'.os = w.os
  tape : w'.tape = w.tape
  output : w'.output = w.output
  size : w.heap.size ≤ w'.heap.size
  block : ∀ k, K k → w'.heap[k]? = w.heap[k]?
theorem UF.refl (K : Nat → Prop) (w : World) : UF K w w := ⟨rfl, rfl, rfl, Nat.le_refl _, fun _ _ => rfl⟩
theorem UF.trans {K : Nat → Prop} {x y z : World} (h : UF K x y) (k : UF K y z) : UF K x z :=
  ⟨k.os.trans h.os, k.tape.trans h.tape, k.output.trans h.output, Nat.le_trans h.size k.size, fun i hi => (k.block i hi).trans (h.block i hi)⟩
theorem UF.only {K : Nat → Prop} {b : Nat} {w w' : World} (h : Only b w w') (hk : ∀ k, K k → k < w.heap.size) (hb : ¬ K b) : UF K w w' := ⟨h.os, h.tape, h.output, h.size, fun k hl => h.block k (hk k hl) (fun e => hb (e ▸ hl))⟩
theorem UF.less {K K' : Nat → Prop} {w w' : World} (h : UF K w w') (hk : ∀ k, K' k → K k) : UF K' w w' := ⟨h.os, h.tape, h.output, h.size, fun k hl => h.block k (hk k hl)⟩
theorem UF.drewN (K : Nat → Prop) (w : World) (k : Nat) : UF K w (w.drewN k) := ⟨rfl, rfl, rfl, Nat.le_refl _, fun _ _ => rfl⟩
theorem US.uf {w w' : World} {K : Nat → Prop} {u b : Nat} {s : ByteArray} {p : Nat} {l : List Nat} {most : Nat} {v f1 f2 : Value} (h : US w K u b s p l most v f1 f2) (ho : Only b w w') : UF K w w' := UF.only ho h.kb h.kr
theorem infoB : (Tryd.prog.info? 5).map (fun i => (i.zero, i.size, i.bytes)) = some (some (.int .u8 0), 1, 1) := by kernel_rfl
theorem bcells_length (l : List Nat) : (bcells l).length = l.length := by simp [bcells]
theorem bcells_append (l m : List Nat) : bcells (l ++ m) = bcells l ++ bcells m := by simp [bcells]
theorem kept_row {w w' : World} {B b size n : Nat} {E T : TypeId} {v : Value} {xs : List Value} {cs : Array Value} {mk : Nat × Nat} (hbl : w.heap[b]? = some (.cells cs T mk)) (hT : T ≠ E) (hown : w.ownsRow B E size v n xs) (hg : w.grownBy w' v.ownBlock) : w'.heap[b]? = w.heap[b]? :=
  hg.block b (lt_of_block hbl) (fun e => by
    rcases hown.2 with ⟨rfl, _⟩ | ⟨g, cap, cur, rfl, hB, hh, _⟩
    · simp [Value.ownBlock] at e
    · have e' : b = g := by simpa [Value.ownBlock] using e
      subst e'; rw [hbl] at hh; cases hh; exact hT rfl)
theorem UF.grown {K : Nat → Prop} {w w' : World} {v : Value} (hg : w.grownBy w' v.ownBlock) (hk : ∀ k, K k → k < w.heap.size) (ho : ∀ g, v.ownBlock = some g → ¬ K g) : UF K w w' :=
  ⟨hg.os, hg.tape, hg.output, hg.size, fun k hl => hg.block k (hk k hl) (fun e => ho k e.symm hl)⟩
theorem string_lies {P : Program} (w : World) (t u ty e : TypeId) (i : TypeInfo) (ht : P.underlying t = some (.slice e)) (hu : P.underlying u = some .string) (hi : P.info? e = some i) (hz : i.zero = some (.int .u8 0))
    (hsize : i.size = 1) (hby : i.bytes = 1) (v : Value) (n : Nat) (xs : List Value) (hown : w.ownsRow 0 e 1 v n xs) (s : ByteArray) (h63 : n + s.size ≤ maxLen) (hbytes : n + s.size ≤ 140737488355328) (v' : Value) (w' : World)
    (hr : (Builtin.append_ #[t, u] ty #[v, .string s]).run P w = .ok v' w') : v'.ownBlock = v.ownBlock ∨ v'.ownBlock = some w.heap.size := by
  have hsmall : n + s.size ≤ 9223372036854775807 := by simp only [maxLen] at h63; omega
  have hxl : xs.length = n := by simpa using hown.1
  rcases hown.2 with ⟨rfl, rfl⟩ | ⟨g, cap, cur, rfl, hbg, hg, hnc, hcm, hcs, htake⟩
  · by_cases hm : s.size = 0
    · have hf := Lib.run_firstCells_string (P := P) w 1 s
      have hn : Lib.strCells s = [] := List.eq_nil_of_length_eq_zero (by rw [Lib.strCells_length]; exact hm)
      rw [hm, hn] at hf
      simp [Builtin.append_, run_underlying ht, run_underlying hu, sizeOf, typeInfo, hi, hsize, Builtin.lenOf, hm, hf] at hr
      left; rw [← hr.1]
    · rw [run_append_nil_string (P := P) w t u ty e i (.int .u8 0) ht hu hi hz s (by omega) (by omega) (by rw [hby]; omega)] at hr
      right; injection hr with h1 h2; rw [← h1]; rfl
  · by_cases hroom : n + s.size ≤ cap
    · have hcs' : cur.size = cap := by simpa using hcs
      rw [Lib.run_append_room_string (P := P) w t u ty e i ht hu hi hsize g n cap cur hg s hroom (by omega)] at hr
      left; injection hr with h1 h2; rw [← h1]; rfl
    · have holds : ∀ j u, xs[j]? = some u → w.cell? ((⟨g, 0, none⟩ : Addr).add j) = some u := hown.cells (g := g) rfl
      rw [Lib.run_append_grow_string (P := P) w t u ty e i (.int .u8 0) ht hu hi hz ⟨g, 0, none⟩ n cap xs (by rw [hsize]; simpa using hxl) holds s (by omega) (by omega) (by rw [hby]; exact growslice_fits (by omega) (by omega))] at hr
      right; injection hr with h1 h2; rw [← h1]; rfl
theorem wpList_string_lies {P : Program} (w : World) {ops : Array Oper} {rest : List Oper} {o : Oper} {a : Act} {Q : Exit → Act → World → Prop} (hgd : o.guard = none) (sl x : Operand) (t u : TypeId)
    (ho : o.op = .call { callee := .builtin .append, args := #[sl, x], argTypes := #[t, u] })
    (e : TypeId) (i : TypeInfo) (ht : P.underlying t = some (.slice e)) (hu : P.underlying u = some .string) (hi : P.info? e = some i) (hz : i.zero = some (.int .u8 0))
    (hsize : i.size = 1) (hby : i.bytes = 1)
    (v : Value) (n : Nat) (xs : List Value) (hs : a.eval sl = v) (hown : w.ownsRow 0 e 1 v n xs) (s : ByteArray) (hx : a.eval x = .string s)
    (h63 : n + s.size ≤ maxLen) (hbytes : n + s.size ≤ 140737488355328)
    (h : ∀ v' w', w'.ownsRow 0 e 1 v' (n + s.size) (xs ++ Lib.strCells s) → w.grownBy w' v.ownBlock → (v'.ownBlock = v.ownBlock ∨ v'.ownBlock = some w.heap.size) → wpList P ops Q rest (a.put o.dst v') w') : wpList P ops Q (o :: rest) a w := by
  refine wpList_plain hgd fun K hK => ?_
  obtain ⟨v', w', hr, h2, h3, h4⟩ := Lib.run_append_own_string (P := P) w 0 t u o.type e i ht hu hi hz hsize hby v n xs hown s h63 hbytes (Nat.zero_le _)
  have h5 := string_lies w t u o.type e i ht hu hi hz hsize hby v n xs hown s h63 hbytes v' w' hr
  unfold Oper.wp execOp
  simp only [ho, resolve, invoke, builtin, Sem.run_bind, Sem.run_pure, Result.andThen_ok, List.map_toArray, List.map_cons, List.map_nil, hs, hx, hr]
  exact hK _ _ (h v' w' h2 h3 h5)
/-- More plain bytes were appended: what the cell holds now. -/
theorem US.grow {w w1 : World} {K : Nat → Prop} {u b : Nat} {s : ByteArray} {p : Nat} {l m : List Nat} {most : Nat} {v f1 f2 v1 : Value} (h : US w K u b s p l most v f1 f2) (hown : w1.ownsRow 0 5 1 v1 (l.length + m.length) (bcells l ++ bcells m)) (hg : w.grownBy w1 v.ownBlock) (hat : v1.ownBlock = v.ownBlock ∨ v1.ownBlock = some w.heap.size) :
    w1.cell? ⟨u, 1, none⟩ = some v ∧ w1.frozen? ⟨u, 1, none⟩ = false ∧ (∃ ao ln cp, v1 = .slice ao ln cp) ∧ US (w1.setCell ⟨u, 1, none⟩ v1) K u b s p (l ++ m) most v1 f1 f2 ∧ UF K w (w1.setCell ⟨u, 1, none⟩ v1) := by
  have hbl := (kept_row h.blk (by decide) h.own hg).trans h.blk
  have hrs : RS w1 b s p := (kept_row h.rs (by decide) h.own hg).trans h.rs
  have hne := h.ne
  have hkb1 : ∀ k, K k → k < w1.heap.size := fun k hk => Nat.lt_of_lt_of_le (h.kb k hk) hg.size
  refine ⟨by simp [World.cell?, hbl], by simp [World.frozen?, hbl], ?_, ⟨?_, ?_, ?_, h.le, h.small, ?_, h.ku, h.kr, ?_⟩, (UF.grown hg h.kb h.ko).trans (UF.only (Only.setCell u 1 w1 v1) hkb1 h.ku)⟩
  · rcases hown.2 with ⟨rfl, _⟩ | ⟨g, cap, cur, rfl, _⟩
    · exact ⟨_, _, _, rfl⟩
    · exact ⟨_, _, _, rfl⟩
  · have := block_setCell (i := 1) (u := v1) hbl
    exact this
  · rw [List.length_append, bcells_append]
    refine ⟨hown.1, ?_⟩
    rcases hown.2 with e | ⟨g, cap, cur, e1, e2, e3, e4⟩
    · exact .inl e
    · refine .inr ⟨g, cap, cur, e1, e2, ?_, e4⟩
      have hgu : g ≠ u := by rintro rfl; rw [hbl] at e3; simp at e3
      rw [Below.heap_setCell _ _ _ _ hgu]; exact e3
  · show _ = _
    rw [Below.heap_setCell _ _ _ _ (fun e => hne e.symm)]; exact hrs
  · exact fun k hk => Nat.lt_of_lt_of_le (hkb1 k hk) (Only.setCell u 1 w1 v1).size
  · intro g hgg hk
    rcases hat with e | e
    · exact h.ko g (by rw [← e]; exact hgg) hk
    · rw [e] at hgg
      have := h.kb g hk
      simp at hgg
      omega
/-- What comes of a stored block: an error, or the place behind it and the plain bytes. -/
def storedF (s : ByteArray) (p : Nat) (l : List Nat) (most : Nat) : Nat × Nat × List Nat :=
  let q := (p + 7) / 8 * 8
  if 8 * s.size < q + 16 then (5, p, l) else if 8 * s.size < q + 32 then (5, p, l)
  else if num s q 16 ^^^ num s (q + 16) 16 ≠ 65535 then (40, p, l) else if most < l.length + num s q 16 then (4, p, l)
  else if 8 * s.size < q + 32 + 8 * num s q 16 then (5, p, l)
  else (0, q + 32 + 8 * num s q 16, l ++ ((s.extract ((q + 32) / 8) ((q + 32) / 8 + num s q 16)).data.toList.map UInt8.toNat))
def StoredEnd (K : Nat → Prop) (u b : Nat) (s : ByteArray) (most : Nat) (f1 f2 : Value) (w : World) (r : Nat × Nat × List Nat) (e : Ending) (w' : World) : Prop :=
  UF K w w' ∧ ((r.1 ≠ 0 ∧ e = .panicked (gave (r.1 : Nat))) ∨ (r.1 = 0 ∧ e = .returned (.tuple #[]) ∧ ∃ v', US w' K u b s r.2.1 r.2.2 most v' f1 f2))
theorem stored_bad {K : Nat → Prop} {u b : Nat} {s : ByteArray} {most : Nat} {f1 f2 : Value} {w w' : World} {r : Nat × Nat × List Nat} {q p' : Nat} {l' : List Nat} (hf : UF K w w') (hr : r = (q, p', l')) (hq : q ≠ 0) : StoredEnd K u b s most f1 f2 w r (.panicked (gave (q : Nat))) w' := by
  subst hr
  exact ⟨hf, .inl ⟨hq, rfl⟩⟩
theorem i64_xor_nat (a b : Nat) (ha : a < 9223372036854775808) (hb : b < 9223372036854775808) : bits .xor .i64 (a : Int) (b : Int) = ((a ^^^ b : Nat) : Int) := by
  have hx : a ^^^ b < 2 ^ 63 := Nat.xor_lt_two_pow (by omega) (by omega)
  show IntKind.i64.wrap ((BitVec.ofInt 64 (a : Int) ^^^ BitVec.ofInt 64 (b : Int)).toNat : Int) = _
  rw [BitVec.toNat_xor, ofInt_u64 a (by omega), ofInt_u64 b (by omega), IntKind.wrap_i64]
  omega
set_option maxRecDepth 20000 in
set_option maxHeartbeats 4000000 in
theorem stored_ok (w : World) (K : Nat → Prop) (u b : Nat) (s : ByteArray) (p : Nat) (l : List Nat) (most : Nat) (v f1 f2 : Value) (h : US w K u b s p l most v f1 f2) (hm : most ≤ 1048576) (hl : l.length ≤ most) :
    Calls Tryd.prog 42 #[.pointer (some ⟨u, 0, none⟩)] w fun e w' => StoredEnd K u b s most f1 f2 w (storedF s p l most) e w' := by
  have HU : Hid (US w K u b s p l most v f1 f2) := h
  have c0 := h.cells.1
  obtain ⟨r, hr⟩ : ∃ r, storedF s p l most = r := ⟨_, rfl⟩
  have HRR : Hid (storedF s p l most = r) := hr
  rw [hr]
  obtain ⟨q, hq⟩ : ∃ q, (p + 7) / 8 * 8 = q := ⟨_, rfl⟩
  have hqs : q ≤ 8 * s.size := by have := h.le; omega
  have hss := h.small
  have HAL : Hid (∀ _ : Unit, Calls Tryd.prog 51 #[.pointer (some ⟨b, 0, none⟩)] w fun e w' => e = .returned (.int .i64 0) ∧ RS w' b s q ∧ Only b w w') := fun _ => by
    have h1 := ralign b s p w h.le h.small h.rs
    rw [hq] at h1
    exact h1
  have HQ : Hid ((p + 7) / 8 * 8 = q) := hq
  clear h hr hq
  go_enter Tryd.func42, Tryd.ntmps42
  go_wp2_with fail
  refine (HAL.out ()).mono ?_
  rintro e w1 ⟨rfl, h1, h2⟩
  have H1 : Hid (US w1 K u b s q l most v f1 f2 ∧ UF K w w1) := ⟨HU.out.read h1 h2 hqs, HU.out.uf h2⟩
  clear h1 h2
  go_wp2_with fail
  refine (check_ok w1).mono ?_
  rintro e w2 ⟨rfl, hw⟩
  obtain rfl := hw.symm
  clear hw
  by_cases s1 : 8 * s.size < q + 16
  · have HB : Hid (∀ _ : Unit, Calls Tryd.prog 41 #[.pointer (some ⟨u, 0, none⟩), .int .i64 (16 : Nat)] w1 fun e w' => e = .panicked (gave 5) ∧ ∃ k, w' = w1.drewN k) := fun _ => ubits_short u b s q 16 w1 H1.out.1.cells.1 H1.out.1.rs (by omega) hqs s1 hss
    have HE : Hid (r = (5, p, l)) := by
      show _ = _
      rw [← HRR.out]; unfold storedF; simp only [HQ.out]; rw [if_pos s1]
    go_wp2_with fail
    refine (HB.out ()).mono ?_
    rintro e w2 ⟨rfl, k, rfl⟩
    go_wp2
    exact ⟨rfl, stored_bad (H1.out.2.trans (UF.drewN _ _ k)) HE.out (by decide)⟩
  · have HB : Hid (∀ _ : Unit, Calls Tryd.prog 41 #[.pointer (some ⟨u, 0, none⟩), .int .i64 (16 : Nat)] w1 fun e w' => e = .returned (.int .i64 (num s q 16 : Nat)) ∧ RS w' b s (q + 16) ∧ Only b w1 w') := fun _ => ubits_ok u b s q 16 w1 H1.out.1.cells.1 H1.out.1.rs (by omega) (by omega) hss
    have hn16 := num_lt s q 16
    obtain ⟨n, hn⟩ : ∃ n, num s q 16 = n := ⟨_, rfl⟩
    rw [hn] at HB hn16
    have HNN : Hid (num s q 16 = n) := hn
    clear hn
    go_wp2_with fail
    refine (HB.out ()).mono ?_
    rintro e w2 ⟨rfl, h1, h2⟩
    have H2 : Hid (US w2 K u b s (q + 16) l most v f1 f2 ∧ UF K w w2) := ⟨H1.out.1.read h1 h2 (by omega), H1.out.2.trans (H1.out.1.uf h2)⟩
    clear h1 h2 HB
    by_cases s2 : 8 * s.size < q + 32
    · have HB : Hid (∀ _ : Unit, Calls Tryd.prog 41 #[.pointer (some ⟨u, 0, none⟩), .int .i64 (16 : Nat)] w2 fun e w' => e = .panicked (gave 5) ∧ ∃ k, w' = w2.drewN k) := fun _ => ubits_short u b s (q + 16) 16 w2 H2.out.1.cells.1 H2.out.1.rs (by omega) (by omega) (by omega) hss
      have HE : Hid (r = (5, p, l)) := by
        show _ = _
        rw [← HRR.out]; unfold storedF; simp only [HQ.out]; rw [if_neg s1, if_pos s2]
      go_wp2_with fail
      refine (HB.out ()).mono ?_
      rintro e w3 ⟨rfl, k, rfl⟩
      go_wp2
      exact ⟨rfl, stored_bad (H2.out.2.trans (UF.drewN _ _ k)) HE.out (by decide)⟩
    · have HB : Hid (∀ _ : Unit, Calls Tryd.prog 41 #[.pointer (some ⟨u, 0, none⟩), .int .i64 (16 : Nat)] w2 fun e w' => e = .returned (.int .i64 (num s (q + 16) 16 : Nat)) ∧ RS w' b s (q + 32) ∧ Only b w2 w') := fun _ => ubits_ok u b s (q + 16) 16 w2 H2.out.1.cells.1 H2.out.1.rs (by omega) (by omega) hss
      have ht16 := num_lt s (q + 16) 16
      obtain ⟨t, ht⟩ : ∃ n, num s (q + 16) 16 = n := ⟨_, rfl⟩
      rw [ht] at HB ht16
      have HTT : Hid (num s (q + 16) 16 = t) := ht
      clear ht
      have hxor := i64_xor_nat n t (by omega) (by omega)
      obtain ⟨xo, hxo⟩ : ∃ x, n ^^^ t = x := ⟨_, rfl⟩
      rw [hxo] at hxor
      have HXO : Hid (n ^^^ t = xo) := hxo
      clear hxo
      go_wp2_with fail
      refine (HB.out ()).mono ?_
      rintro e w3 ⟨rfl, h1, h2⟩
      have H3 : Hid (US w3 K u b s (q + 32) l most v f1 f2 ∧ UF K w w3) := ⟨H2.out.1.read h1 h2 (by omega), H2.out.2.trans (H2.out.1.uf h2)⟩
      clear h1 h2 HB
      by_cases s3 : xo = 65535
      · have s3i : (xo : Int) = 65535 := by omega
        have s3b : ((xo : Int) == 65535) = true := by simpa using s3i
        go_wp2_with fail
        refine (insist_ok w3).mono ?_
        rintro e w4 ⟨rfl, hw⟩
        obtain rfl := hw.symm
        clear hw
        have HROOM : Hid (∀ _ : Unit, Calls Tryd.prog 53 #[.pointer (some ⟨u, 0, none⟩), .int .i64 n] w3 fun e w' => (l.length + n ≤ most ∧ e = .returned (.tuple #[]) ∨ most < l.length + n ∧ e = .panicked (gave 4)) ∧ ∃ k, w' = w3.drewN k) := fun _ => room_ok w3 K u b s (q + 32) l most v f1 f2 H3.out.1 n hm hl (by omega)
        go_wp2_with fail
        refine (HROOM.out ()).mono ?_
        rintro e w4 ⟨⟨s4, rfl⟩ | ⟨s4, rfl⟩, k, rfl⟩
        · have H4 : Hid (US (w3.drewN k) K u b s (q + 32) l most v f1 f2 ∧ UF K w (w3.drewN k)) := ⟨H3.out.1.drewN k, H3.out.2.trans (UF.drewN _ _ k)⟩
          have HS4 : Hid (l.length + n ≤ most) := s4
          clear s4 HROOM
          obtain ⟨w4, hw4⟩ : ∃ w4, w3.drewN k = w4 := ⟨_, rfl⟩
          rw [hw4] at H4 ⊢
          clear hw4
          have c4 := H4.out.1.cells.1
          by_cases s5 : 8 * s.size < q + 32 + 8 * n
          · have HE : Hid (r = (5, p, l)) := by
              show _ = _
              rw [← HRR.out]; unfold storedF; simp only [HQ.out, HNN.out, HTT.out, HXO.out]; rw [if_neg s1, if_neg s2, if_neg (fun h => h s3), if_neg (by have := HS4.out; omega), if_pos s5]
            have HB : Hid (∀ _ : Unit, Calls Tryd.prog 54 #[.pointer (some ⟨b, 0, none⟩), .int .i64 n] w4 fun e w' => e = .returned (.tuple #[.string ⟨#[]⟩, .int .i64 5]) ∧ ∃ k, w' = w4.drewN k) := fun _ => rbytes_short b s (q + 32) n w4 (by have := HQ.out; omega) (by have := HQ.out; omega) (by omega) hss H4.out.1.rs
            go_wp2_with fail
            refine (HB.out ()).mono ?_
            rintro e w5 ⟨rfl, k5, rfl⟩
            go_wp2_with fail
            refine (check_no 5 (by decide) _).mono ?_
            rintro e w6 ⟨rfl, hw⟩
            obtain rfl := hw.symm
            clear hw
            go_wp2
            exact ⟨rfl, stored_bad (H4.out.2.trans (UF.drewN _ _ k5)) HE.out (by decide)⟩
          · obtain ⟨ex, hex⟩ : ∃ ex, s.extract ((q + 32) / 8) ((q + 32) / 8 + n) = ex := ⟨_, rfl⟩
            have HE : Hid (r = (0, q + 32 + 8 * n, l ++ ex.data.toList.map UInt8.toNat) ∧ ex.size = n) := by
              refine ⟨?_, ?_⟩
              · rw [← HRR.out]; unfold storedF; simp only [HQ.out, HNN.out, HTT.out, HXO.out]; rw [if_neg s1, if_neg s2, if_neg (fun h => h s3), if_neg (by have := HS4.out; omega), if_neg s5, hex]
              · rw [← hex, ByteArray.size_extract]; omega
            have HB : Hid (∀ _ : Unit, Calls Tryd.prog 54 #[.pointer (some ⟨b, 0, none⟩), .int .i64 n] w4 fun e w' => e = .returned (.tuple #[.string ex, .int .i64 0]) ∧ RS w' b s (q + 32 + 8 * n) ∧ Only b w4 w') := fun _ => by
              have h1 := rbytes b s (q + 32) n w4 (by have := HQ.out; omega) (by have := HQ.out; omega) (by omega) hss H4.out.1.rs (lt_of_block H4.out.1.rs)
              rw [hex] at h1
              exact h1
            have hexs := HE.out.2
            have hexs2 : (ex.data.toList.map UInt8.toNat).length = n := by rw [← hexs]; simp
            clear hex
            go_wp2_with fail
            refine (HB.out ()).mono ?_
            rintro e w5 ⟨rfl, h1, h2⟩
            have H5 : Hid (US w5 K u b s (q + 32 + 8 * n) l most v f1 f2 ∧ UF K w w5) := ⟨H4.out.1.read h1 h2 (by omega), H4.out.2.trans (H4.out.1.uf h2)⟩
            clear h1 h2 HB c4
            obtain ⟨c50, c51, _, _, _, f51⟩ := H5.out.1.cells
            obtain ⟨i0, hi, hz0, hz1, hz2⟩ := info_parts infoB
            obtain ⟨L, hL⟩ : ∃ L, l.length = L := ⟨_, rfl⟩
            have HLL : Hid (l.length = L) := hL
            have hLn : L + ex.size ≤ 1048576 := by have := HS4.out; rw [hL] at this; omega
            have hown : Hid (w5.ownsRow 0 5 1 v L (bcells l)) := by show World.ownsRow _ _ _ _ _ _ _; rw [← hL]; exact H5.out.1.own
            clear hL
            go_wp2_with (first | (go_at_call 46; refine (check_ok w5).mono ?_; rintro e w6 ⟨rfl, hw⟩; obtain rfl := hw.symm; clear hw) | (at_builtin; refine wpList_string_lies _ rfl _ _ 33 9 rfl 5 i0 Tryd.underlying33 Tryd.underlying9 hi hz0 hz1 hz2 v L (bcells l) rfl hown.out ex rfl ?c1 ?c2 ?_))
            case c1 => unfold maxLen; omega
            case c2 => omega
            intro v1 w6 hown1 hgrow hat
            have hsc : Lib.strCells ex = bcells (ex.data.toList.map UInt8.toNat) := by simp [Lib.strCells, bcells]
            rw [hsc, ← HLL.out, ← hexs2] at hown1
            obtain ⟨d1, d2, ⟨ao, ln, cp, hv1⟩, d3, d4⟩ := H5.out.1.grow hown1 hgrow hat
            subst hv1
            have H6 : Hid _ := (⟨d3, d4⟩ : _ ∧ _)
            clear d3 d4 hown1 hgrow hat
            go_wp2
            go_end0
            refine ⟨H5.out.2.trans H6.out.2, .inr ⟨by rw [HE.out.1], rfl, .slice ao ln cp, ?_⟩⟩
            rw [HE.out.1]
            exact H6.out.1
        · have HE : Hid (r = (4, p, l)) := by
            show _ = _
            rw [← HRR.out]; unfold storedF; simp only [HQ.out, HNN.out, HTT.out, HXO.out]; rw [if_neg s1, if_neg s2, if_neg (fun h => h s3), if_pos s4]
          go_wp2
          exact ⟨rfl, stored_bad (H3.out.2.trans (UF.drewN _ _ k)) HE.out (by decide)⟩
      · have s3i : ¬ (xo : Int) = 65535 := by omega
        have s3b : ((xo : Int) == 65535) = false := by simpa using s3i
        have HE : Hid (r = (40, p, l)) := by
          show _ = _
          rw [← HRR.out]; unfold storedF; simp only [HQ.out, HNN.out, HTT.out, HXO.out]; rw [if_neg s1, if_neg s2, if_pos s3]
        go_wp2_with fail
        refine (insist_no w3).mono ?_
        rintro e w4 ⟨rfl, hw⟩
        obtain rfl := hw.symm
        clear hw
        go_wp2
        exact ⟨rfl, stored_bad H3.out.2 HE.out (by decide)⟩
end Go.Proofs.YtchjnfckcfikkaaDoor
