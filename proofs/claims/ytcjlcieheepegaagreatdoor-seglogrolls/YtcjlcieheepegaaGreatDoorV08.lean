/- Layer 8: a file is put into the map; bytes are appended. -/
/- Layer 8: Append. -/
/- Layer 8: Append refused, New, Remove. -/
import Derived.Test.YtcjlcieheepegaaGreatDoorV03
import Derived.Test.YtcjlcieheepegaaGreatDoorV07
import Derived.Deep.RegionWith
namespace Go.Proofs.YtcjlcieheepegaaGreatDoor.V8
open Go.RowKit Go.Maps
set_option linter.unusedVariables false
set_option maxRecDepth 20000
set_option maxRecDepth 20000

theorem clone (s : ByteArray) (w : World) (hlim : s.size ≤ 281474976710656) : Calls Tryz.prog 43 #[.string s] w fun e w' => e = .returned (.string s) ∧ Below w.heap.size w w' := by
  go_enter Tryz.func43, Tryz.ntmps43
  go_wp2_with (go_at_call 69; refine (Tryz.stringslite_Clone _ _ hlim).mono ?_; rintro e w' ⟨rfl, hb⟩)
  go_ret
  exact ⟨rfl, hb⟩
theorem string_lies {P : Program} (w : World) (t u ty e : TypeId) (i : TypeInfo) (ht : P.underlying t = some (.slice e)) (hu : P.underlying u = some .string) (hi : P.info? e = some i) (hz : i.zero = some (.int .u8 0))
    (hsize : i.size = 1) (hby : i.bytes = 1) (v : Value) (n : Nat) (xs : List Value) (hown : w.ownsRow 0 e 1 v n xs) (s : ByteArray) (h63 : n + s.size ≤ maxLen) (hbytes : n + s.size ≤ 140737488355328) (v' : Value) (w' : World)
    (hr : (Builtin.append_ #[t, u] ty #[v, .string s]).run P w = .ok v' w') : v'.ownBlock = v.ownBlock ∨ v'.ownBlock = some w.heap.size := by
  have hsmall : n + s.size ≤ 9223372036854775807 := by simp only [maxLen] at h63; omega
  have hxl : xs.length = n := by simpa using hown.1
  rcases hown.2 with ⟨rfl, rfl⟩ | ⟨g, cap, cur, rfl, hbg, hg, hnc, hcm, hcs, htake⟩
  · by_cases hm : s.size = 0
    · have hf := Lib.run_firstCells_string (P := P) w 1 s
      have hn : Lib.strCells s = [] := List.eq_nil_of_length_eq_zero (by rw [Lib.strCells_length]; exact hm)
      rw [hm, hn] at hf
      simp [Builtin.append_, run_underlying ht, run_underlying hu, sizeOf, typeInfo, hi, hsize, Builtin.lenOf, hm, hf] at hr
      left; rw [← hr.1]
    · rw [run_append_nil_string (P := P) w t u ty e i (.int .u8 0) ht hu hi hz s (by omega) (by omega) (by rw [hby]; omega)] at hr
      right; injection hr with h1 h2; rw [← h1]; rfl
  · by_cases hroom : n + s.size ≤ cap
    · have hcs' : cur.size = cap := by simpa using hcs
      rw [Lib.run_append_room_string (P := P) w t u ty e i ht hu hi hsize g n cap cur hg s hroom (by omega)] at hr
      left; injection hr with h1 h2; rw [← h1]; rfl
    · have holds : ∀ j u, xs[j]? = some u → w.cell? ((⟨g, 0, none⟩ : Addr).add j) = some u := hown.cells (g := g) rfl
      rw [Lib.run_append_grow_string (P := P) w t u ty e i (.int .u8 0) ht hu hi hz ⟨g, 0, none⟩ n cap xs (by rw [hsize]; simpa using hxl) holds s (by omega) (by omega) (by rw [hby]; exact growslice_fits (by omega) (by omega))] at hr
      right; injection hr with h1 h2; rw [← h1]; rfl
theorem wpList_string_lies {P : Program} (w : World) {ops : Array Oper} {rest : List Oper} {o : Oper} {a : Act} {Q : Exit → Act → World → Prop} (hgd : o.guard = none) (sl x : Operand) (t u : TypeId)
    (ho : o.op = .call { callee := .builtin .append, args := #[sl, x], argTypes := #[t, u] })
    (e : TypeId) (i : TypeInfo) (ht : P.underlying t = some (.slice e)) (hu : P.underlying u = some .string) (hi : P.info? e = some i) (hz : i.zero = some (.int .u8 0))
    (hsize : i.size = 1) (hby : i.bytes = 1)
    (v : Value) (n : Nat) (xs : List Value) (hs : a.eval sl = v) (hown : w.ownsRow 0 e 1 v n xs) (s : ByteArray) (hx : a.eval x = .string s)
    (h63 : n + s.size ≤ maxLen) (hbytes : n + s.size ≤ 140737488355328)
    (h : ∀ v' w', w'.ownsRow 0 e 1 v' (n + s.size) (xs ++ Lib.strCells s) → w.grownBy w' v.ownBlock → (v'.ownBlock = v.ownBlock ∨ v'.ownBlock = some w.heap.size) → wpList P ops Q rest (a.put o.dst v') w') : wpList P ops Q (o :: rest) a w := by
  refine wpList_plain hgd fun K hK => ?_
  obtain ⟨v', w', hr, h2, h3, h4⟩ := Lib.run_append_own_string (P := P) w 0 t u o.type e i ht hu hi hz hsize hby v n xs hown s h63 hbytes (Nat.zero_le _)
  have h5 := string_lies w t u o.type e i ht hu hi hz hsize hby v n xs hown s h63 hbytes v' w' hr
  unfold Oper.wp execOp
  simp only [ho, resolve, invoke, builtin, Sem.run_bind, Sem.run_pure, Result.andThen_ok, List.map_toArray, List.map_cons, List.map_nil, hs, hx, hr]
  exact hK _ _ (h v' w' h2 h3 h5)
theorem ownsRow_rebase {w : World} {E size n B B' : Nat} {v : Value} {xs : List Value} (h : w.ownsRow B E size v n xs) (hb : ∀ g, v.ownBlock = some g → B' ≤ g) : w.ownsRow B' E size v n xs := by
  refine ⟨h.1, ?_⟩
  rcases h.2 with e | ⟨g, cap, cur, e1, e2, e3, e4⟩
  · exact .inl e
  · exact .inr ⟨g, cap, cur, e1, hb g (by rw [e1]; rfl), e3, e4⟩
theorem VM.drewN {w : World} {B d room bm : Nat} {M : List FR} (h : VM w B d room bm M) (k : Nat) : VM (w.drewN k) B d room bm M := h.below (Below.drewN' _ _ _)
theorem ptr_wf (b : Nat) : pE (.pointer (some ⟨b, 0, none⟩)) = some (.lit (.int .i64 (b : Nat)), []) := rfl
theorem VM.store {w : World} {B d room bm : Nat} {M : List FR} (h : VM w B d room bm M) (s : ByteArray) (hs : s.size ≤ 32) (m : FR) (hn : m.name = s.data.toList) (hF : FOK w B m) (hap : ∀ x ∈ rm M m.name, Apart x m) (hu : used (m :: rm M m.name) ≤ room) (hc : (m :: rm M m.name).length ≤ 256) :
    ∃ w', (Instr.mapUpdate 77 (.map (some bm)) (.string s) (.pointer (some ⟨m.blk, 0, none⟩))).run Tryz.prog w = .ok () w' ∧ VM w' B d room bm (m :: rm M m.name) ∧ VF B w w' ∧ w.grownBy w' (some bm) := by
  obtain ⟨es, hD, hp⟩ := h.own
  obtain ⟨es0, clock, hmb⟩ := h.mapBlk
  obtain ⟨w', hrun, r1, r2⟩ := hD.update law9 Tryz.underlying77 (by have := h.hcnt; unfold maxLen; omega) (key9 s (by unfold maxLen; omega)) (ptr_wf m.blk)
  obtain ⟨es', e', hp'⟩ := perm_put hp m
  rw [← hn, e'] at r1
  refine ⟨w', hrun, h.remapped r2 r1 hp' ?_ ?_ hu hc, VF.map hmb h.hbm r2, r2⟩
  · exact List.pairwise_cons.2 ⟨fun x hx => (hap x hx).symm, h.apart.filter _⟩
  · intro x hx
    rcases List.mem_cons.1 hx with rfl | hx
    · exact hF
    · exact h.each x (List.mem_filter.1 hx).1
theorem FOK.below {w w' : World} {B : Nat} {m : FR} (h : FOK w B m) (hb : Below w.heap.size w w') : FOK w' B m := h.block (hb.block _ h.lt.1) (fun g hg => hb.block g (h.lt.2 g hg))
set_option maxHeartbeats 1000000 in
theorem put_ok (w : World) (B d room bm : Nat) (M : List FR) (h : VM w B d room bm M) (s : ByteArray) (hs : s.size ≤ 32) (m : FR) (hn : m.name = s.data.toList) (hF : FOK w B m) (hap : ∀ x ∈ rm M m.name, Apart x m) (hu : used (m :: rm M m.name) ≤ room) (hc : (m :: rm M m.name).length ≤ 256) :
    Calls Tryz.prog 55 #[.pointer (some ⟨d, 0, none⟩), .string s, .pointer (some ⟨m.blk, 0, none⟩)] w fun e w' => e = .returned (.tuple #[]) ∧ VM w' B d room bm (m :: rm M m.name) ∧ VF B w w' := by
  have HV : Hid (VM w B d room bm M ∧ FOK w B m) := ⟨h, hF⟩
  have HCl : Hid (∀ W, Calls Tryz.prog 43 #[.string s] W fun e w' => e = .returned (.string s) ∧ Below W.heap.size W w') := fun W => clone s W (by omega)
  have HS : Hid (∀ W, Below w.heap.size w W → W.cell? ⟨d, 2, none⟩ = some (.map (some bm)) ∧ ∃ w', (Instr.mapUpdate 77 (.map (some bm)) (.string s) (.pointer (some ⟨m.blk, 0, none⟩))).run Tryz.prog W = .ok () w' ∧ Hid (VM w' B d room bm (m :: rm M m.name) ∧ VF B w w')) := fun W hW => by
    have h1 := HV.out.1.below hW
    obtain ⟨w', r1, r2, r3, r4⟩ := h1.store s hs m hn (HV.out.2.below hW) hap hu hc
    exact ⟨h1.cells.2.2, w', r1, r2, (VF.of hW HV.out.1.base).trans r3⟩
  obtain ⟨c0, c1, c2⟩ := h.cells
  obtain ⟨q, hq⟩ : ∃ q, m.blk = q := ⟨_, rfl⟩
  rw [hq] at HS ⊢
  clear h hF hap hu hc hs hn hq
  go_enter Tryz.func55, Tryz.ntmps55
  go_wp2_with fail
  go_region_with (go_at_call 43; refine (HCl.out _).mono ?_; rintro e w3 ⟨rfl, hb3⟩; have hb4 : Below w.heap.size w w3 := ⟨hb3.os, hb3.tape, hb3.output, hb3.size, hb3.block⟩; obtain ⟨d2, w5, hrun, H5⟩ := HS.out w3 hb4; clear hb3 hb4)
  all_goals
    go_wp2
    go_end0
    exact ⟨rfl, H5.out⟩
end Go.Proofs.YtcjlcieheepegaaGreatDoor.V8
namespace Go.Proofs.YtcjlcieheepegaaGreatDoor.V8
open Go.RowKit Go.Maps
set_option linter.unusedVariables false
set_option maxRecDepth 20000
set_option maxRecDepth 20000

theorem FOK.grow {w w1 : World} {B : Nat} {m : FR} {t : ByteArray} {v1 : Value} (h : FOK w B m) (hB : B ≤ w.heap.size) (hown : w1.ownsRow 0 5 1 v1 (m.l.length + t.size) (bcells m.l ++ Lib.strCells t)) (hg : w.grownBy w1 m.v.ownBlock) (hat : v1.ownBlock = m.v.ownBlock ∨ v1.ownBlock = some w.heap.size) :
    w1.cell? ⟨m.blk, 0, none⟩ = some m.v ∧ w1.frozen? ⟨m.blk, 0, none⟩ = false ∧ (∃ ao ln cp, v1 = .slice ao ln cp) ∧ FOK (w1.setCell ⟨m.blk, 0, none⟩ v1) B { m with v := v1, l := m.l ++ bytesOf t } ∧ VF B w (w1.setCell ⟨m.blk, 0, none⟩ v1) ∧
      (∀ i, i < w.heap.size → i ≠ m.blk → m.v.ownBlock ≠ some i → (w1.setCell ⟨m.blk, 0, none⟩ v1).heap[i]? = w.heap[i]?) := by
  have hbl := (kept_row h.blk (by decide) h.own hg).trans h.blk
  have hown' : w1.ownsRow B 5 1 v1 (m.l.length + t.size) (bcells m.l ++ Lib.strCells t) := ownsRow_rebase hown (fun g hg' => by
    rcases hat with e | e
    · rw [e] at hg'; exact (h.row hg').elim fun _ h => h.2
    · rw [e] at hg'; cases hg'; exact hB)
  refine ⟨by simp [World.cell?, hbl], by simp [World.frozen?, hbl], ?_, ⟨block_setCell (i := 0) hbl, ?_, h.bytes.append (bytesOf_bytes t), ?_, h.hB⟩, (VF.row h.own hg hB).trans (VF.file hbl h.hB _), fun i hi h1 h2 => ?_⟩
  · rcases hown.2 with ⟨rfl, _⟩ | ⟨g, cap, cur, rfl, _⟩
    · exact ⟨_, _, _, rfl⟩
    · exact ⟨_, _, _, rfl⟩
  · rw [List.length_append, bytesOf_length, bcells_append, ← strCells_eq]
    exact ownsRow_set hown' hbl (by decide)
  · have := h.le
    simp; omega
  · rw [Below.heap_setCell _ _ _ _ (by exact h1)]
    exact hg.block i hi (fun e => h2 e.symm)
/-- Behind the append. -/
def Grew (w1 w2 : World) (B q : Nat) (m : FR) (t : ByteArray) (v v2 : Value) : Prop :=
  w2.cell? ⟨q, 0, none⟩ = some v ∧ w2.frozen? ⟨q, 0, none⟩ = false ∧ FOK (w2.setCell ⟨q, 0, none⟩ v2) B { m with v := v2, l := m.l ++ bytesOf t } ∧ VF B w1 (w2.setCell ⟨q, 0, none⟩ v2) ∧
      (∀ i, i < w1.heap.size → i ≠ m.blk → m.v.ownBlock ≠ some i → (w2.setCell ⟨q, 0, none⟩ v2).heap[i]? = w1.heap[i]?) ∧ (v2.ownBlock = m.v.ownBlock ∨ v2.ownBlock = some w1.heap.size)
theorem FOK.grew {w1 w2 : World} {B q L : Nat} {m : FR} {t : ByteArray} {v v2 : Value} (h : FOK w1 B m) (hB : B ≤ w1.heap.size) (hq : m.blk = q) (hv : m.v = v ∧ m.l.length = L) (hown : w2.ownsRow 0 5 1 v2 (L + t.size) (bcells m.l ++ Lib.strCells t)) (hg : w1.grownBy w2 v.ownBlock) (hat : v2.ownBlock = v.ownBlock ∨ v2.ownBlock = some w1.heap.size) :
    ∃ ao ln cp, v2 = .slice ao ln cp ∧ w2.cell? ⟨q, 0, none⟩ = some v ∧ w2.frozen? ⟨q, 0, none⟩ = false ∧ Hid (Grew w1 w2 B q m t v v2) := by
  obtain ⟨e1, e2⟩ := hv
  subst e1 e2 hq
  obtain ⟨a1, a2, ⟨ao, ln, cp, e⟩, a4, a5, a6⟩ := h.grow hB hown hg hat
  exact ⟨ao, ln, cp, e, a1, a2, a1, a2, a4, a5, a6, hat⟩
theorem VD.grew {w1 w2 : World} {B d room bm q us cnt : Nat} {M : List FR} {m : FR} {t : ByteArray} {v v2 : Value} {F : List UInt8 → Option (List Nat × Nat)} (h : VM w1 B d room bm M) (hG : Grew w1 w2 B q m t v v2) (hm : m ∈ M) (hl : ∀ t, look M t = F t) (hc : M.length = cnt) (hu : used M = us) (hr : us + t.size ≤ room) :
    VD (w2.setCell ⟨q, 0, none⟩ v2) B d room (upd F m.name (some (m.l ++ bytesOf t, m.n))) cnt (us + t.size) := by
  obtain ⟨-, -, j4, j5, j6, j7⟩ := hG
  have := VD.turned h hm { m with v := v2, l := m.l ++ bytesOf t } rfl rfl j6 j4 (fun g hg => by
      rcases j7 with e | e
      · exact .inl (e ▸ hg)
      · rw [show ({ m with v := v2, l := m.l ++ bytesOf t } : FR).v = v2 from rfl, e] at hg; cases hg; exact .inr (Nat.le_refl _)) (us + t.size) (by simp [bytesOf_length]; omega) hr hl
  rw [hc] at this
  exact this
set_option maxHeartbeats 4000000 in
theorem append_some (w : World) (B d room cnt us : Nat) (F : List UInt8 → Option (List Nat × Nat)) (h : VD w B d room F cnt us) (s t : ByteArray) (hm : May s) (l : List Nat) (n : Nat) (hs : F s.data.toList = some (l, n)) (hr : us + t.size ≤ room) :
    Calls Tryz.prog 32 #[.pointer (some ⟨d, 0, none⟩), .string s, .string t] w fun e w' => e = .returned (.int .i64 0) ∧ VD w' B d room (upd F s.data.toList (some (l ++ bytesOf t, n))) cnt (us + t.size) ∧ VF B w w' := by
  obtain ⟨bm, M, h1, h2, h3, h4⟩ := h
  obtain ⟨m, hf, e⟩ := look_some ((h2 _).trans hs)
  cases e
  have HF : Hid (∀ _ : Unit, Calls Tryz.prog 53 #[.pointer (some ⟨d, 0, none⟩), .string s] w fun e w' => e = .returned (.tuple #[.pointer (some ⟨m.blk, 0, none⟩), .int .i64 0]) ∧ w' = w) := fun _ => find_some w B d room bm M h1 s hm m hf
  have HU : Hid (∀ W, VM W B d room bm M → Calls Tryz.prog 54 #[.pointer (some ⟨d, 0, none⟩)] W fun e w' => e = .returned (.int .i64 (us : Nat)) ∧ Below W.heap.size W w') := fun W hW => by rw [← h4]; exact used_ok W B d room bm M hW
  obtain ⟨hm1, hm2⟩ := findF_some hf
  have hK := h1.each m hm1
  have HV : Hid (VM w B d room bm M ∧ m ∈ M ∧ (∀ t, look M t = F t) ∧ M.length = cnt ∧ used M = us ∧ m.name = s.data.toList) := ⟨h1, hm1, h2, h3, h4, hm2⟩
  have hml : m.l.length ≤ us := h4 ▸ used_mem hm1
  have hroom := h1.hroom
  have hus : us ≤ room := h4 ▸ h1.hused
  obtain ⟨c0, c1, c2⟩ := h1.cells
  obtain ⟨i0, hi, hz0, hz1, hz2⟩ := info_parts infoB
  obtain ⟨df, hdf⟩ : ∃ x, room - us = x := ⟨_, rfl⟩
  have hsub : wrap64 ((room : Int) - (us : Int)) = ((room - us : Nat) : Int) := by rw [← Int.natCast_sub hus]; exact wrapN64 _ (by omega)
  rw [hdf] at hsub
  have hcmp : ¬ (df : Int) < (t.size : Int) := by omega
  have hdec : decide (wrap64 ((room : Int) - (us : Int)) < (t.size : Int)) = false := by rw [hsub]; simp; omega
  have hdec2 : decide (IntKind.i64.wrap ((room : Int) - (us : Int)) < (t.size : Int)) = false := by
    have e : IntKind.i64.wrap ((room : Int) - (us : Int)) = ((room - us : Nat) : Int) := by rw [← Int.natCast_sub hus]; exact wrapN _ (by omega)
    rw [e, hdf]; simp; omega
  obtain ⟨q, hq⟩ : ∃ q, m.blk = q := ⟨_, rfl⟩
  rw [hq] at HF
  have HQ : Hid (m.blk = q) := hq
  have hts : t.size ≤ 16777216 := by omega
  clear h1 h2 h3 h4 hs hm hf hK hq hm1 hm2 hdf
  have HX : Hid (us + t.size ≤ room ∧ us ≤ room ∧ m.l.length ≤ us ∧ room ≤ 16777216) := ⟨hr, hus, hml, hroom⟩
  clear hr hus hml hroom
  go_enter Tryz.func32, Tryz.ntmps32
  go_wp2_with fail
  refine (HF.out ()).mono ?_
  rintro e W ⟨rfl, hW⟩
  obtain rfl := hW.symm
  clear hW
  go_wp2_with fail
  go_region_held_law (fun w' => w'.cell? ⟨d, 1, none⟩ = some (.int .i64 (room : Nat)))
    (first | assumption | go_keep)
    (first | (go_at_call 54; refine (HU.out _ (by first | exact HV.out.1 | exact HV.out.1.drewN 1)).mono ?_; rintro e w1 ⟨rfl, hb1⟩; have H1 : Hid (VM w1 B d room bm M ∧ Below w.heap.size w w1) := ⟨VM.below (by first | exact HV.out.1 | exact HV.out.1.drewN 1) hb1, ⟨hb1.os, hb1.tape, hb1.output, hb1.size, hb1.block⟩⟩; have KS := H1.out.1.cells.2.1; clear hb1))
  all_goals
    try simp only [hdec2, hdec]
    clear hsub hcmp
    have hK := H1.out.1.each m HV.out.2.1
    obtain ⟨k0, k1, g0, g1⟩ := hK.cells
    rw [HQ.out] at k0 g0
    have HO : Hid (w1.ownsRow 0 5 1 m.v m.l.length (bcells m.l)) := ownsRow_rebase hK.own (fun _ _ => Nat.zero_le _)
    have HL : Hid (m.l.length + t.size ≤ 16777216) := (by have := HX.out; omega : m.l.length + t.size ≤ 16777216)
    obtain ⟨ao, cp, hv⟩ := hK.form
    obtain ⟨L, hL⟩ : ∃ q, m.l.length = q := ⟨_, rfl⟩
    have HVV : Hid (m.v = .slice ao L cp ∧ m.l.length = L) := ⟨by rw [hv, hL], hL⟩
    rw [hv, hL] at k0 HO
    rw [hL] at HL
    clear hK k1 g1 hv hL
    go_wp2_with (first | (at_builtin; refine wpList_string_lies _ rfl _ _ 47 9 rfl 5 i0 Tryz.underlying47 Tryz.underlying9 hi hz0 hz1 hz2 (.slice ao L cp) L (bcells m.l) rfl HO.out t rfl (by have := HL.out; unfold maxLen; omega) (by have := HL.out; omega) ?_; intro v2 w2 hown2 hg2 hat2; obtain ⟨ao2, ln2, cp2, rfl, j1, j2, HG⟩ := (H1.out.1.each m HV.out.2.1).grew H1.out.1.base HQ.out HVV.out hown2 hg2 hat2; clear hown2 hg2 hat2 k0 g0))
    go_ret
    obtain ⟨v1, v2, v3, v4, v5, v6⟩ := HV.out
    refine ⟨rfl, ?_, (VF.of H1.out.2 v1.base).trans HG.out.2.2.2.1⟩
    have := VD.grew H1.out.1 HG.out v2 v3 v4 v5 HX.out.1
    rw [v6] at this
    exact this
set_option maxHeartbeats 4000000 in
theorem append_none (w : World) (B d room cnt us : Nat) (F : List UInt8 → Option (List Nat × Nat)) (h : VD w B d room F cnt us) (s t : ByteArray) (hm : May s) (hs : F s.data.toList = none) (hcn : cnt < 256) (hr : us + t.size ≤ room) :
    Calls Tryz.prog 32 #[.pointer (some ⟨d, 0, none⟩), .string s, .string t] w fun e w' => e = .returned (.int .i64 0) ∧ VD w' B d room (upd F s.data.toList (some (bytesOf t, 0))) (cnt + 1) (us + t.size) ∧ VF B w w' := by
  obtain ⟨bm, M, h1, h2, h3, h4⟩ := h
  have hf := look_none ((h2 _).trans hs)
  have HF : Hid (∀ _ : Unit, Calls Tryz.prog 53 #[.pointer (some ⟨d, 0, none⟩), .string s] w fun e w' => e = .returned (.tuple #[.pointer none, .int .i64 3]) ∧ w' = w) := fun _ => find_none w B d room bm M h1 s hm hf
  have HU : Hid (∀ W, VM W B d room bm M → Calls Tryz.prog 54 #[.pointer (some ⟨d, 0, none⟩)] W fun e w' => e = .returned (.int .i64 (us : Nat)) ∧ Below W.heap.size W w') := fun W hW => by rw [← h4]; exact used_ok W B d room bm M hW
  have HV : Hid (VM w B d room bm M ∧ findF M s.data.toList = none ∧ (∀ t, look M t = F t) ∧ M.length = cnt ∧ used M = us ∧ s.size ≤ 32) := ⟨h1, hf, h2, h3, h4, hm.2.1⟩
  obtain ⟨es, hD, hp⟩ := h1.own
  have hsz : Maps.size (DataW.map es) = cnt := by rw [← h3]; have := hp.length_eq; simpa [Maps.size] using this
  have hlen := hD.len Tryz.underlying77
  rw [hsz] at hlen
  have hc256 : ¬ (256 : Int) ≤ (cnt : Int) := by omega
  have hroom := h1.hroom
  have hus : us ≤ room := h4 ▸ h1.hused
  obtain ⟨c0, c1, c2⟩ := h1.cells
  obtain ⟨i0, hi, hz0, hz1, hz2⟩ := info_parts infoB
  obtain ⟨df, hdf⟩ : ∃ x, room - us = x := ⟨_, rfl⟩
  have hsub : wrap64 ((room : Int) - (us : Int)) = ((room - us : Nat) : Int) := by rw [← Int.natCast_sub hus]; exact wrapN64 _ (by omega)
  rw [hdf] at hsub
  have hcmp : ¬ (df : Int) < (t.size : Int) := by omega
  have hdec : decide (wrap64 ((room : Int) - (us : Int)) < (t.size : Int)) = false := by rw [hsub]; simp; omega
  have hdec2 : decide (IntKind.i64.wrap ((room : Int) - (us : Int)) < (t.size : Int)) = false := by
    have e : IntKind.i64.wrap ((room : Int) - (us : Int)) = ((room - us : Nat) : Int) := by rw [← Int.natCast_sub hus]; exact wrapN _ (by omega)
    rw [e, hdf]; simp; omega
  have hts : t.size ≤ 16777216 := by omega
  clear h1 h2 h3 h4 hs hm hf hdf hD hp hsz
  have HX : Hid (us + t.size ≤ room ∧ us ≤ room ∧ cnt < 256 ∧ room ≤ 16777216) := ⟨hr, hus, hcn, hroom⟩
  clear hr hus hcn hroom
  go_enter Tryz.func32, Tryz.ntmps32
  go_wp2_with fail
  refine (HF.out ()).mono ?_
  rintro e W ⟨rfl, hW⟩
  obtain rfl := hW.symm
  clear hW
  go_wp2_with fail
  go_region_held_law (fun w' => w'.cell? ⟨d, 1, none⟩ = some (.int .i64 (room : Nat)))
    (first | assumption | go_keep)
    (first | (go_at_call 54; refine (HU.out _ (by first | exact HV.out.1 | exact HV.out.1.drewN 1)).mono ?_; rintro e w1 ⟨rfl, hb1⟩; have H1 : Hid (VM w1 B d room bm M ∧ Below w.heap.size w w1) := ⟨VM.below (by first | exact HV.out.1 | exact HV.out.1.drewN 1) hb1, ⟨hb1.os, hb1.tape, hb1.output, hb1.size, hb1.block⟩⟩; have KS := H1.out.1.cells.2.1; clear hb1))
  all_goals
    try simp only [hdec2, hdec]
    clear hsub hcmp
    obtain ⟨g, hg⟩ : ∃ g, w1.heap.size = g := ⟨_, rfl⟩
    obtain ⟨wa, hwa⟩ : ∃ W, w1.alloc (.cells #[.slice none 0 0, .int .i64 0] 105) = W := ⟨_, rfl⟩
    have HA : Hid (VM wa B d room bm M ∧ Below w.heap.size w wa ∧ wa.heap[g]? = some (.cells #[.slice none 0 0, .int .i64 0] 105 (0, 0)) ∧ w1.heap.size = g) := by
      have hb : Below w1.heap.size w1 wa := by rw [← hwa]; exact (Below.refl _ _).alloc (Nat.le_refl _) _
      refine ⟨H1.out.1.below hb, H1.out.2.trans ⟨hb.os, hb.tape, hb.output, hb.size, fun k hk => hb.block k (Nat.lt_of_lt_of_le hk H1.out.2.size)⟩, ?_, hg⟩
      rw [← hwa, ← hg]; exact heap_alloc_new _ _
    have HP : Hid (∀ _ : Unit, Calls Tryz.prog 55 #[.pointer (some ⟨d, 0, none⟩), .string s, .pointer (some ⟨g, 0, none⟩)] wa fun e w' => e = .returned (.tuple #[]) ∧ VM w' B d room bm (FR.mk s.data.toList g (.slice none 0 0) [] 0 :: M) ∧ VF B wa w') := fun _ => by
      obtain ⟨a1, a2, a3, a4⟩ := HA.out
      obtain ⟨v1, v2, v3, v4, v5, v6⟩ := HV.out
      have hbg : B ≤ g := by rw [← a4]; exact Nat.le_trans v1.base H1.out.2.size
      have hrm : rm M s.data.toList = M := rm_none v2
      have := put_ok wa B d room bm M a1 s v6 (FR.mk s.data.toList g (.slice none 0 0) [] 0) rfl ⟨a3, ⟨rfl, .inl ⟨rfl, rfl⟩⟩, fun x hx => by simp at hx, Nat.le_refl _, hbg⟩ (fun x hx => by
        have hx1 : x ∈ M := (List.mem_filter.1 hx).1
        refine ⟨findF_none v2 x hx1, ?_, fun g' hg' e => by simp [Value.ownBlock] at e⟩
        have := (H1.out.1.each x hx1).lt.1
        show x.blk ≠ g
        omega) (by
          show used (_ :: rm M s.data.toList) ≤ room
          rw [hrm, used_cons, v5]; have := HX.out; simp; omega) (by
          show (_ :: rm M s.data.toList).length ≤ 256
          rw [hrm]; have := HX.out; simp; omega)
      rw [show rm M (FR.mk s.data.toList g (.slice none 0 0) [] 0).name = M from hrm] at this
      exact this
    clear hlen hc256
    go_wp2_with fail
    try rw [hg]
    try rw [hwa]
    refine (HP.out ()).mono ?_
    rintro e w3 ⟨rfl, hv3, hf3⟩
    have H3 : Hid (VM w3 B d room bm (FR.mk s.data.toList g (.slice none 0 0) [] 0 :: M) ∧ VF B w w3) := ⟨hv3, (VF.of HA.out.2.1 HV.out.1.base).trans hf3⟩
    clear hv3 hf3 hwa hg
    have hK := H3.out.1.each _ (List.mem_cons_self ..)
    obtain ⟨k0, k1, g0, g1⟩ := hK.cells
    have HO : Hid (w3.ownsRow 0 5 1 (.slice none 0 0) 0 (bcells [])) := ownsRow_rebase hK.own (fun _ _ => Nat.zero_le _)
    clear hK k1 g1
    simp only at k0 g0
    go_wp2_with (first | (at_builtin; refine wpList_string_lies _ rfl _ _ 47 9 rfl 5 i0 Tryz.underlying47 Tryz.underlying9 hi hz0 hz1 hz2 (.slice none 0 0) 0 (bcells []) rfl HO.out t rfl (by unfold maxLen; omega) (by omega) ?_; intro v2 w2 hown2 hg2 hat2; obtain ⟨ao2, ln2, cp2, rfl, j1, j2, HG⟩ := (H3.out.1.each _ (List.mem_cons_self ..)).grew H3.out.1.base rfl ⟨rfl, rfl⟩ hown2 hg2 hat2; simp only at j1 j2; clear hown2 hg2 hat2 k0 g0))
    go_ret
    obtain ⟨v1, v2, v3, v4, v5, v6⟩ := HV.out
    refine ⟨rfl, ?_, H3.out.2.trans HG.out.2.2.2.1⟩
    have := VD.grew (F := upd F s.data.toList (some ([], 0))) (cnt := cnt + 1) (us := us) H3.out.1 HG.out (List.mem_cons_self ..) (fun t => by
      have hs := look_split (A := []) (C := M) (m := FR.mk s.data.toList g (.slice none 0 0) [] 0) H3.out.1.apart t
      simp only [List.nil_append] at hs
      rw [hs]
      unfold upd
      by_cases e : t = s.data.toList
      · simp [e]
      · simp [e, v3]) (by simp [v4]) (by rw [used_cons, v5]; simp) HX.out.1
    have e : upd (upd F s.data.toList (some ([], 0))) s.data.toList (some ([] ++ bytesOf t, 0)) = upd F s.data.toList (some (bytesOf t, 0)) := by
      funext x; unfold upd; by_cases h : x = s.data.toList <;> simp [h]
    rw [show (FR.mk s.data.toList g (.slice none 0 0) [] 0).name = s.data.toList from rfl, show (FR.mk s.data.toList g (.slice none 0 0) [] 0).l = [] from rfl, show (FR.mk s.data.toList g (.slice none 0 0) [] 0).n = 0 from rfl, e] at this
    exact this
end Go.Proofs.YtcjlcieheepegaaGreatDoor.V8
namespace Go.Proofs.YtcjlcieheepegaaGreatDoor.V8
open Go.RowKit Go.Maps
set_option linter.unusedVariables false
set_option maxRecDepth 20000
set_option maxRecDepth 20000

set_option maxHeartbeats 4000000 in
theorem append_disk_some (w : World) (B d room cnt us : Nat) (F : List UInt8 → Option (List Nat × Nat)) (h : VD w B d room F cnt us) (s t : ByteArray) (hm : May s) (l : List Nat) (n : Nat) (hs : F s.data.toList = some (l, n)) (hr : room < us + t.size) :
    Calls Tryz.prog 32 #[.pointer (some ⟨d, 0, none⟩), .string s, .string t] w fun e w' => e = .returned (.int .i64 80) ∧ Below w.heap.size w w' := by
  obtain ⟨bm, M, h1, h2, h3, h4⟩ := h
  obtain ⟨m, hf, e⟩ := look_some ((h2 _).trans hs)
  cases e
  have HF : Hid (∀ _ : Unit, Calls Tryz.prog 53 #[.pointer (some ⟨d, 0, none⟩), .string s] w fun e w' => e = .returned (.tuple #[.pointer (some ⟨m.blk, 0, none⟩), .int .i64 0]) ∧ w' = w) := fun _ => find_some w B d room bm M h1 s hm m hf
  obtain ⟨q, hq⟩ : ∃ q, m.blk = q := ⟨_, rfl⟩
  rw [hq] at HF
  clear hq hf
  have HU : Hid (∀ W, VM W B d room bm M → Calls Tryz.prog 54 #[.pointer (some ⟨d, 0, none⟩)] W fun e w' => e = .returned (.int .i64 (us : Nat)) ∧ Below W.heap.size W w') := fun W hW => by rw [← h4]; exact used_ok W B d room bm M hW
  have HV : Hid (VM w B d room bm M) := h1
  have hroom := h1.hroom
  have hus : us ≤ room := h4 ▸ h1.hused
  obtain ⟨c0, c1, c2⟩ := h1.cells
  obtain ⟨df, hdf⟩ : ∃ x, room - us = x := ⟨_, rfl⟩
  have hdec : decide (wrap64 ((room : Int) - (us : Int)) < (t.size : Int)) = true := by
    have hsub : wrap64 ((room : Int) - (us : Int)) = ((room - us : Nat) : Int) := by rw [← Int.natCast_sub hus]; exact wrapN64 _ (by omega)
    rw [hsub, hdf]; simp; omega
  have hdec2 : decide (IntKind.i64.wrap ((room : Int) - (us : Int)) < (t.size : Int)) = true := by
    have e : IntKind.i64.wrap ((room : Int) - (us : Int)) = ((room - us : Nat) : Int) := by rw [← Int.natCast_sub hus]; exact wrapN _ (by omega)
    rw [e, hdf]; simp; omega
  clear h1 h2 h3 h4 hs hm hdf hr hus hroom
  go_enter Tryz.func32, Tryz.ntmps32
  go_wp2_with fail
  refine (HF.out ()).mono ?_
  rintro e W ⟨rfl, hW⟩
  obtain rfl := hW.symm
  clear hW
  go_wp2_with fail
  go_region_held_law (fun w' => w'.cell? ⟨d, 1, none⟩ = some (.int .i64 (room : Nat)))
    (first | assumption | go_keep)
    (first | (go_at_call 54; refine (HU.out _ (by first | exact HV.out | exact HV.out.drewN 1)).mono ?_; rintro e w1 ⟨rfl, hb1⟩; have H1 : Hid (VM w1 B d room bm M ∧ Below w.heap.size w w1) := ⟨VM.below (by first | exact HV.out | exact HV.out.drewN 1) hb1, ⟨hb1.os, hb1.tape, hb1.output, hb1.size, hb1.block⟩⟩; have KS := H1.out.1.cells.2.1; clear hb1))
  all_goals
    try simp only [hdec2, hdec]
    go_wp2
    go_ret
    exact ⟨rfl, H1.out.2⟩
set_option maxHeartbeats 4000000 in
theorem append_disk_none (w : World) (B d room cnt us : Nat) (F : List UInt8 → Option (List Nat × Nat)) (h : VD w B d room F cnt us) (s t : ByteArray) (hm : May s) (hs : F s.data.toList = none) (hcn : cnt < 256) (hr : room < us + t.size) :
    Calls Tryz.prog 32 #[.pointer (some ⟨d, 0, none⟩), .string s, .string t] w fun e w' => e = .returned (.int .i64 80) ∧ Below w.heap.size w w' := by
  obtain ⟨bm, M, h1, h2, h3, h4⟩ := h
  have hf := look_none ((h2 _).trans hs)
  have HF : Hid (∀ _ : Unit, Calls Tryz.prog 53 #[.pointer (some ⟨d, 0, none⟩), .string s] w fun e w' => e = .returned (.tuple #[.pointer none, .int .i64 3]) ∧ w' = w) := fun _ => find_none w B d room bm M h1 s hm hf
  obtain ⟨es, hD, hp⟩ := h1.own
  have hsz : Maps.size (DataW.map es) = cnt := by rw [← h3]; have := hp.length_eq; simpa [Maps.size] using this
  have hlen := hD.len Tryz.underlying77
  rw [hsz] at hlen
  have hc256 : ¬ (256 : Int) ≤ (cnt : Int) := by omega
  clear hf hD hp hsz
  have HU : Hid (∀ W, VM W B d room bm M → Calls Tryz.prog 54 #[.pointer (some ⟨d, 0, none⟩)] W fun e w' => e = .returned (.int .i64 (us : Nat)) ∧ Below W.heap.size W w') := fun W hW => by rw [← h4]; exact used_ok W B d room bm M hW
  have HV : Hid (VM w B d room bm M) := h1
  have hroom := h1.hroom
  have hus : us ≤ room := h4 ▸ h1.hused
  obtain ⟨c0, c1, c2⟩ := h1.cells
  obtain ⟨df, hdf⟩ : ∃ x, room - us = x := ⟨_, rfl⟩
  have hdec : decide (wrap64 ((room : Int) - (us : Int)) < (t.size : Int)) = true := by
    have hsub : wrap64 ((room : Int) - (us : Int)) = ((room - us : Nat) : Int) := by rw [← Int.natCast_sub hus]; exact wrapN64 _ (by omega)
    rw [hsub, hdf]; simp; omega
  have hdec2 : decide (IntKind.i64.wrap ((room : Int) - (us : Int)) < (t.size : Int)) = true := by
    have e : IntKind.i64.wrap ((room : Int) - (us : Int)) = ((room - us : Nat) : Int) := by rw [← Int.natCast_sub hus]; exact wrapN _ (by omega)
    rw [e, hdf]; simp; omega
  clear h1 h2 h3 h4 hs hm hdf hr hus hroom
  go_enter Tryz.func32, Tryz.ntmps32
  go_wp2_with fail
  refine (HF.out ()).mono ?_
  rintro e W ⟨rfl, hW⟩
  obtain rfl := hW.symm
  clear hW
  go_wp2_with fail
  go_region_held_law (fun w' => w'.cell? ⟨d, 1, none⟩ = some (.int .i64 (room : Nat)))
    (first | assumption | go_keep)
    (first | (go_at_call 54; refine (HU.out _ (by first | exact HV.out | exact HV.out.drewN 1)).mono ?_; rintro e w1 ⟨rfl, hb1⟩; have H1 : Hid (VM w1 B d room bm M ∧ Below w.heap.size w w1) := ⟨VM.below (by first | exact HV.out | exact HV.out.drewN 1) hb1, ⟨hb1.os, hb1.tape, hb1.output, hb1.size, hb1.block⟩⟩; have KS := H1.out.1.cells.2.1; clear hb1))
  all_goals
    try simp only [hdec2, hdec]
    go_wp2
    go_ret
    exact ⟨rfl, H1.out.2⟩
set_option maxHeartbeats 1000000 in
theorem append_full (w : World) (B d room cnt us : Nat) (F : List UInt8 → Option (List Nat × Nat)) (h : VD w B d room F cnt us) (s t : ByteArray) (hm : May s) (hs : F s.data.toList = none) (hcn : 256 ≤ cnt) :
    Calls Tryz.prog 32 #[.pointer (some ⟨d, 0, none⟩), .string s, .string t] w fun e w' => e = .returned (.int .i64 2) ∧ w' = w := by
  obtain ⟨bm, M, h1, h2, h3, h4⟩ := h
  have hf := look_none ((h2 _).trans hs)
  have HF : Hid (∀ _ : Unit, Calls Tryz.prog 53 #[.pointer (some ⟨d, 0, none⟩), .string s] w fun e w' => e = .returned (.tuple #[.pointer none, .int .i64 3]) ∧ w' = w) := fun _ => find_none w B d room bm M h1 s hm hf
  obtain ⟨es, hD, hp⟩ := h1.own
  have hsz : Maps.size (DataW.map es) = cnt := by rw [← h3]; have := hp.length_eq; simpa [Maps.size] using this
  have hlen := hD.len Tryz.underlying77
  rw [hsz] at hlen
  have hc256 : (256 : Int) ≤ (cnt : Int) := by omega
  obtain ⟨c0, c1, c2⟩ := h1.cells
  clear hf hD hp hsz h1 h2 h3 h4 hs hm
  go_enter Tryz.func32, Tryz.ntmps32
  go_wp2_with fail
  refine (HF.out ()).mono ?_
  rintro e W ⟨rfl, hW⟩
  obtain rfl := hW.symm
  clear hW
  go_wp2
  go_ret
  exact ⟨rfl, rfl⟩
theorem VM.made (w : World) (room : Nat) (hr : room ≤ 16777216) :
    VM ((w.alloc (.map #[] 0)).alloc (.cells #[.pointer (some ⟨w.heap.size + 1, 0, none⟩), .int .i64 (room : Nat), .map (some w.heap.size)] 79)) w.heap.size (w.heap.size + 1) room w.heap.size [] ∧
    Below w.heap.size w ((w.alloc (.map #[] 0)).alloc (.cells #[.pointer (some ⟨w.heap.size + 1, 0, none⟩), .int .i64 (room : Nat), .map (some w.heap.size)] 79)) := by
  obtain ⟨w1, h1⟩ : ∃ w1, w.alloc (.map #[] 0) = w1 := ⟨_, rfl⟩
  have hs1 : w1.heap.size = w.heap.size + 1 := by rw [← h1]; simp
  have hm1 : w1.ownsMap (H := Unit) Tryz.prog 9 pE w.heap.size 0 (.map []) := by rw [← h1]; exact World.ownsMap_made w _ _ _
  obtain ⟨w2, h2⟩ : ∃ w2, w1.alloc (.cells #[.pointer (some ⟨w.heap.size + 1, 0, none⟩), .int .i64 (room : Nat), .map (some w.heap.size)] 79) = w2 := ⟨_, rfl⟩
  have hb2 : w2.heap[w.heap.size + 1]? = some (.cells #[.pointer (some ⟨w.heap.size + 1, 0, none⟩), .int .i64 (room : Nat), .map (some w.heap.size)] 79 (0, 0)) := by
    rw [← h2, ← hs1]; exact heap_alloc_new _ _
  have hm2 : w2.ownsMap (H := Unit) Tryz.prog 9 pE w.heap.size 0 (.map []) := by rw [← h2]; exact hm1.alloc _
  rw [h1, h2]
  refine ⟨⟨hb2, ⟨[], hm2, List.Perm.refl _⟩, List.Pairwise.nil, fun m hm => absurd hm (by simp), by omega, Nat.le_refl _, hr, Nat.zero_le _, by simp⟩, ?_⟩
  have b1 : Below w.heap.size w w1 := by rw [← h1]; exact (Below.refl _ _).alloc (Nat.le_refl _) _
  rw [← h2]; exact b1.alloc (by omega) _
set_option maxHeartbeats 1000000 in
theorem newDisk_ok (w : World) (room : Nat) (hr : room ≤ 16777216) :
    Calls Tryz.prog 21 #[.int .i64 (room : Nat)] w fun e w' => e = .returned (.pointer (some ⟨w.heap.size + 1, 0, none⟩)) ∧ VD w' w.heap.size (w.heap.size + 1) room (fun _ => none) 0 0 ∧ Below w.heap.size w w' := by
  have hmm := @run_makeMap Tryz.prog
  obtain ⟨hv, hb⟩ := VM.made w room hr
  have HV : Hid (VD _ w.heap.size (w.heap.size + 1) room (fun _ => none) 0 0 ∧ Below w.heap.size w _) := ⟨⟨_, [], hv, fun _ => rfl, rfl, rfl⟩, hb⟩
  clear hv hb
  go_enter Tryz.func21, Tryz.ntmps21
  go_wp2
  go_ret
  exact ⟨rfl, HV.out⟩
set_option maxHeartbeats 1000000 in
theorem new_ok (w : World) (room : Nat) (hr : room ≤ 16777216) :
    Calls Tryz.prog 10 #[.int .i64 (room : Nat)] w fun e w' => e = .returned (.tuple #[.pointer (some ⟨w.heap.size + 1, 0, none⟩), .int .i64 0]) ∧ VD w' w.heap.size (w.heap.size + 1) room (fun _ => none) 0 0 ∧ Below w.heap.size w w' := by
  have h1 : ¬ (room : Int) < 0 := by omega
  have h2 : ¬ (16777216 : Int) < (room : Int) := by omega
  have HN : Hid (∀ _ : Unit, Calls Tryz.prog 21 #[.int .i64 (room : Nat)] w fun e w' => e = .returned (.pointer (some ⟨w.heap.size + 1, 0, none⟩)) ∧ VD w' w.heap.size (w.heap.size + 1) room (fun _ => none) 0 0 ∧ Below w.heap.size w w') := fun _ => newDisk_ok w room hr
  obtain ⟨U, hU⟩ : ∃ U, w.heap.size + 1 = U := ⟨_, rfl⟩
  rw [hU] at HN ⊢
  clear hU
  go_enter Tryz.func10, Tryz.ntmps10
  go_wp2_with fail
  refine (HN.out ()).mono ?_
  rintro e W ⟨rfl, hv, hb⟩
  have H : Hid (VD W w.heap.size U room (fun _ => none) 0 0 ∧ Below w.heap.size w W) := ⟨hv, hb⟩
  clear hv hb
  go_wp2
  go_ret2
  exact ⟨rfl, H.out⟩
/-- A file is taken away. -/
theorem VM.dropped {w : World} {B d room bm : Nat} {A C : List FR} {m : FR} (h : VM w B d room bm (A ++ m :: C)) (s : ByteArray) (hs : s.size ≤ 32) (hn : m.name = s.data.toList) (ty : TypeId) :
    ∃ w', (Builtin.delete_ #[77, 9] ty #[.map (some bm), .string s]).run Tryz.prog w = .ok (.tuple #[]) w' ∧ VM w' B d room bm (A ++ C) ∧ VF B w w' ∧ w.grownBy w' (some bm) := by
  obtain ⟨es, hD, hp⟩ := h.own
  obtain ⟨es0, clock, hmb⟩ := h.mapBlk
  obtain ⟨w', hrun, r1, r2⟩ := hD.drop law9 Tryz.underlying77 (key9 s (by unfold maxLen; omega)) ty
  obtain ⟨es', e', hp'⟩ := perm_del hp m.name
  have hrm := rm_split h.apart
  rw [hrm] at hp'
  rw [← hn, e'] at r1
  obtain ⟨ap, _⟩ := apart_split h.apart
  have hu := h.hused
  have hc := h.hcnt
  rw [used_split] at hu
  rw [len_split] at hc
  refine ⟨w', hrun, h.remapped r2.grown r1 hp' ap (fun x hx => h.each x (by rcases List.mem_append.1 hx with h1 | h1 <;> simp [h1])) (by omega) (by omega), VF.map hmb h.hbm r2.grown, r2.grown⟩
set_option maxHeartbeats 1000000 in
theorem remove_some (w : World) (B d room cnt us : Nat) (F : List UInt8 → Option (List Nat × Nat)) (h : VD w B d room F cnt us) (s : ByteArray) (hm : May s) (l : List Nat) (n : Nat) (hs : F s.data.toList = some (l, n)) :
    Calls Tryz.prog 37 #[.pointer (some ⟨d, 0, none⟩), .string s] w fun e w' => e = .returned (.int .i64 0) ∧ VD w' B d room (upd F s.data.toList none) (cnt - 1) (us - l.length) ∧ VF B w w' := by
  obtain ⟨bm, M, h1, h2, h3, h4⟩ := h
  obtain ⟨m, hf, e⟩ := look_some ((h2 _).trans hs)
  cases e
  have HF : Hid (∀ _ : Unit, Calls Tryz.prog 53 #[.pointer (some ⟨d, 0, none⟩), .string s] w fun e w' => e = .returned (.tuple #[.pointer (some ⟨m.blk, 0, none⟩), .int .i64 0]) ∧ w' = w) := fun _ => find_some w B d room bm M h1 s hm m hf
  obtain ⟨hm1, hm2⟩ := findF_some hf
  obtain ⟨c0, c1, c2⟩ := h1.cells
  obtain ⟨A, C, rfl⟩ := List.append_of_mem hm1
  have HD : Hid (∀ ty, ∃ w', (Builtin.delete_ #[77, 9] ty #[.map (some bm), .string s]).run Tryz.prog w = .ok (.tuple #[]) w' ∧ Hid (VD w' B d room (upd F s.data.toList none) (cnt - 1) (us - m.l.length) ∧ VF B w w')) := fun ty => by
    obtain ⟨w', r1, r2, r3, _⟩ := h1.dropped s hm.2.1 hm2 ty
    refine ⟨w', r1, ⟨bm, A ++ C, r2, fun t => ?_, ?_, ?_⟩, r3⟩
    · rw [look_rm_split h1.apart, h2, ← hm2]; rfl
    · rw [← h3, len_split]; omega
    · rw [← h4, used_split]; omega
  obtain ⟨q, hq⟩ : ∃ q, m.blk = q := ⟨_, rfl⟩
  rw [hq] at HF
  obtain ⟨w5, hrun, H5⟩ := HD.out 0
  clear h1 h2 h3 h4 hs hm hf hq hm1 hm2
  go_enter Tryz.func37, Tryz.ntmps37
  go_wp2_with fail
  refine (HF.out ()).mono ?_
  rintro e W ⟨rfl, hW⟩
  obtain rfl := hW.symm
  clear hW
  go_wp2
  go_ret
  exact ⟨rfl, H5.out⟩
set_option maxHeartbeats 1000000 in
theorem remove_none (w : World) (B d room cnt us : Nat) (F : List UInt8 → Option (List Nat × Nat)) (h : VD w B d room F cnt us) (s : ByteArray) (hm : May s) (hs : F s.data.toList = none) :
    Calls Tryz.prog 37 #[.pointer (some ⟨d, 0, none⟩), .string s] w fun e w' => e = .returned (.int .i64 3) ∧ w' = w := by
  obtain ⟨bm, M, h1, h2, h3, h4⟩ := h
  have HF : Hid (∀ _ : Unit, Calls Tryz.prog 53 #[.pointer (some ⟨d, 0, none⟩), .string s] w fun e w' => e = .returned (.tuple #[.pointer none, .int .i64 3]) ∧ w' = w) := fun _ => find_none w B d room bm M h1 s hm (look_none ((h2 _).trans hs))
  clear h1 h2 h3 h4 hs hm
  go_enter Tryz.func37, Tryz.ntmps37
  go_wp2_with fail
  refine (HF.out ()).mono ?_
  rintro e W ⟨rfl, hW⟩
  obtain rfl := hW.symm
  go_wp2
  go_ret
  exact ⟨rfl, rfl⟩
end Go.Proofs.YtcjlcieheepegaaGreatDoor.V8
