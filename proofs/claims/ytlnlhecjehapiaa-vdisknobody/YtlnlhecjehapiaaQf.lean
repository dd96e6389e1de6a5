/- Layer 8: a file is put into the map; bytes are appended. -/
import Derived.Test.YtlnlhecjehapiaaQe
import Derived.Test.YtlnlhecjehapiaaShelf
import Derived.Deep.RegionWith
namespace Go.Proofs.Ytlnlhecjehapiaa
open Go.RowKit Go.Maps
set_option linter.unusedVariables false
set_option maxRecDepth 20000

theorem clone (s : ByteArray) (w : World) (hlim : s.size ≤ 281474976710656) : Calls Try.prog 28 #[.string s] w fun e w' => e = .returned (.string s) ∧ Below w.heap.size w w' := by
  go_enter Try.func28, Try.ntmps28
  go_wp2_with (go_at_call 31; refine (Try.stringslite_Clone _ _ hlim).mono ?_; rintro e w' ⟨rfl, hb⟩)
  go_ret
  exact ⟨rfl, hb⟩
theorem string_lies {P : Program} (w : World) (t u ty e : TypeId) (i : TypeInfo) (ht : P.underlying t = some (.slice e)) (hu : P.underlying u = some .string) (hi : P.info? e = some i) (hz : i.zero = some (.int .u8 0))
    (hsize : i.size = 1) (hby : i.bytes = 1) (v : Value) (n : Nat) (xs : List Value) (hown : w.ownsRow 0 e 1 v n xs) (s : ByteArray) (h63 : n + s.size ≤ maxLen) (hbytes : n + s.size ≤ 140737488355328) (v' : Value) (w' : World)
    (hr : (Builtin.append_ #[t, u] ty #[v, .string s]).run P w = .ok v' w') : v'.ownBlock = v.ownBlock ∨ v'.ownBlock = some w.heap.size := by
  have hsmall : n + s.size ≤ 9223372036854775807 := by simp only [maxLen] at h63; omega
  have hxl : xs.length = n := by simpa using hown.1
  rcases hown.2 with ⟨rfl, rfl⟩ | ⟨g, cap, cur, rfl, hbg, hg, hnc, hcm, hcs, htake⟩
  · by_cases hm : s.size = 0
    · have hf := Lib.run_firstCells_string (P := P) w 1 s
      have hn : Lib.strCells s = [] := List.eq_nil_of_length_eq_zero (by rw [Lib.strCells_length]; exact hm)
      rw [hm, hn] at hf
      simp [Builtin.append_, run_underlying ht, run_underlying hu, sizeOf, typeInfo, hi, hsize, Builtin.lenOf, hm, hf] at hr
      left; rw [← hr.1]
    · rw [run_append_nil_string (P := P) w t u ty e i (.int .u8 0) ht hu hi hz s (by omega) (by omega) (by rw [hby]; omega)] at hr
      right; injection hr with h1 h2; rw [← h1]; rfl
  · by_cases hroom : n + s.size ≤ cap
    · have hcs' : cur.size = cap := by simpa using hcs
      rw [Lib.run_append_room_string (P := P) w t u ty e i ht hu hi hsize g n cap cur hg s hroom (by omega)] at hr
      left; injection hr with h1 h2; rw [← h1]; rfl
    · have holds : ∀ j u, xs[j]? = some u → w.cell? ((⟨g, 0, none⟩ : Addr).add j) = some u := hown.cells (g := g) rfl
      rw [Lib.run_append_grow_string (P := P) w t u ty e i (.int .u8 0) ht hu hi hz ⟨g, 0, none⟩ n cap xs (by rw [hsize]; simpa using hxl) holds s (by omega) (by omega) (by rw [hby]; exact growslice_fits (by omega) (by omega))] at hr
      right; injection hr with h1 h2; rw [← h1]; rfl
theorem wpList_string_lies {P : Program} (w : World) {ops : Array Oper} {rest : List Oper} {o : Oper} {a : Act} {Q : Exit → Act → World → Prop} (hgd : o.guard = none) (sl x : Operand) (t u : TypeId)
    (ho : o.op = .call { callee := .builtin .append, args := #[sl, x], argTypes := #[t, u] })
    (e : TypeId) (i : TypeInfo) (ht : P.underlying t = some (.slice e)) (hu : P.underlying u = some .string) (hi : P.info? e = some i) (hz : i.zero = some (.int .u8 0))
    (hsize : i.size = 1) (hby : i.bytes = 1)
    (v : Value) (n : Nat) (xs : List Value) (hs : a.eval sl = v) (hown : w.ownsRow 0 e 1 v n xs) (s : ByteArray) (hx : a.eval x = .string s)
    (h63 : n + s.size ≤ maxLen) (hbytes : n + s.size ≤ 140737488355328)
    (h : ∀ v' w', w'.ownsRow 0 e 1 v' (n + s.size) (xs ++ Lib.strCells s) → w.grownBy w' v.ownBlock → (v'.ownBlock = v.ownBlock ∨ v'.ownBlock = some w.heap.size) → wpList P ops Q rest (a.put o.dst v') w') : wpList P ops Q (o :: rest) a w := by
  refine wpList_plain hgd fun K hK => ?_
  obtain ⟨v', w', hr, h2, h3, h4⟩ := Lib.run_append_own_string (P := P) w 0 t u o.type e i ht hu hi hz hsize hby v n xs hown s h63 hbytes (Nat.zero_le _)
  have h5 := string_lies w t u o.type e i ht hu hi hz hsize hby v n xs hown s h63 hbytes v' w' hr
  unfold Oper.wp execOp
  simp only [ho, resolve, invoke, builtin, Sem.run_bind, Sem.run_pure, Result.andThen_ok, List.map_toArray, List.map_cons, List.map_nil, hs, hx, hr]
  exact hK _ _ (h v' w' h2 h3 h5)
theorem ownsRow_rebase {w : World} {E size n B B' : Nat} {v : Value} {xs : List Value} (h : w.ownsRow B E size v n xs) (hb : ∀ g, v.ownBlock = some g → B' ≤ g) : w.ownsRow B' E size v n xs := by
  refine ⟨h.1, ?_⟩
  rcases h.2 with e | ⟨g, cap, cur, e1, e2, e3, e4⟩
  · exact .inl e
  · exact .inr ⟨g, cap, cur, e1, hb g (by rw [e1]; rfl), e3, e4⟩
theorem VM.drewN {w : World} {B d room bm : Nat} {M : List FR} (h : VM w B d room bm M) (k : Nat) : VM (w.drewN k) B d room bm M := h.below (Below.drewN' _ _ _)
theorem ptr_wf (b : Nat) : pE (.pointer (some ⟨b, 0, none⟩)) = some (.lit (.int .i64 (b : Nat)), []) := rfl
theorem VM.store {w : World} {B d room bm : Nat} {M : List FR} (h : VM w B d room bm M) (s : ByteArray) (hs : s.size ≤ 32) (m : FR) (hn : m.name = s.data.toList) (hF : FOK w B m) (hap : ∀ x ∈ rm M m.name, Apart x m) (hu : used (m :: rm M m.name) ≤ room) (hc : (m :: rm M m.name).length ≤ 256) :
    ∃ w', (Instr.mapUpdate 37 (.map (some bm)) (.string s) (.pointer (some ⟨m.blk, 0, none⟩))).run Try.prog w = .ok () w' ∧ VM w' B d room bm (m :: rm M m.name) ∧ VF B w w' ∧ w.grownBy w' (some bm) := by
  obtain ⟨es, hD, hp⟩ := h.own
  obtain ⟨es0, clock, hmb⟩ := h.mapBlk
  obtain ⟨w', hrun, r1, r2⟩ := hD.update law9 Try.underlying37 (by have := h.hcnt; unfold maxLen; omega) (key9 s (by unfold maxLen; omega)) (ptr_wf m.blk)
  obtain ⟨es', e', hp'⟩ := perm_put hp m
  rw [← hn, e'] at r1
  refine ⟨w', hrun, h.remapped r2 r1 hp' ?_ ?_ hu hc, VF.map hmb h.hbm r2, r2⟩
  · exact List.pairwise_cons.2 ⟨fun x hx => (hap x hx).symm, h.apart.filter _⟩
  · intro x hx
    rcases List.mem_cons.1 hx with rfl | hx
    · exact hF
    · exact h.each x (List.mem_filter.1 hx).1
theorem FOK.below {w w' : World} {B : Nat} {m : FR} (h : FOK w B m) (hb : Below w.heap.size w w') : FOK w' B m := h.block (hb.block _ h.lt.1) (fun g hg => hb.block g (h.lt.2 g hg))
set_option maxHeartbeats 1000000 in
theorem put_ok (w : World) (B d room bm : Nat) (M : List FR) (h : VM w B d room bm M) (s : ByteArray) (hs : s.size ≤ 32) (m : FR) (hn : m.name = s.data.toList) (hF : FOK w B m) (hap : ∀ x ∈ rm M m.name, Apart x m) (hu : used (m :: rm M m.name) ≤ room) (hc : (m :: rm M m.name).length ≤ 256) :
    Calls Try.prog 23 #[.pointer (some ⟨d, 0, none⟩), .string s, .pointer (some ⟨m.blk, 0, none⟩)] w fun e w' => e = .returned (.tuple #[]) ∧ VM w' B d room bm (m :: rm M m.name) ∧ VF B w w' := by
  have HV : Hid (VM w B d room bm M ∧ FOK w B m) := ⟨h, hF⟩
  have HCl : Hid (∀ W, Calls Try.prog 28 #[.string s] W fun e w' => e = .returned (.string s) ∧ Below W.heap.size W w') := fun W => clone s W (by omega)
  have HS : Hid (∀ W, Below w.heap.size w W → W.cell? ⟨d, 2, none⟩ = some (.map (some bm)) ∧ ∃ w', (Instr.mapUpdate 37 (.map (some bm)) (.string s) (.pointer (some ⟨m.blk, 0, none⟩))).run Try.prog W = .ok () w' ∧ Hid (VM w' B d room bm (m :: rm M m.name) ∧ VF B w w')) := fun W hW => by
    have h1 := HV.out.1.below hW
    obtain ⟨w', r1, r2, r3, r4⟩ := h1.store s hs m hn (HV.out.2.below hW) hap hu hc
    exact ⟨h1.cells.2.2, w', r1, r2, (VF.of hW HV.out.1.base).trans r3⟩
  obtain ⟨c0, c1, c2⟩ := h.cells
  obtain ⟨q, hq⟩ : ∃ q, m.blk = q := ⟨_, rfl⟩
  rw [hq] at HS ⊢
  clear h hF hap hu hc hs hn hq
  go_enter Try.func23, Try.ntmps23
  go_wp2_with fail
  go_region_with (go_at_call 28; refine (HCl.out _).mono ?_; rintro e w3 ⟨rfl, hb3⟩; have hb4 : Below w.heap.size w w3 := ⟨hb3.os, hb3.tape, hb3.output, hb3.size, hb3.block⟩; obtain ⟨d2, w5, hrun, H5⟩ := HS.out w3 hb4; clear hb3 hb4)
  all_goals
    go_wp2
    go_end0
    exact ⟨rfl, H5.out⟩
end Go.Proofs.Ytlnlhecjehapiaa
