/- Layer 11: recipes that came in: one, and a slice of them. -/
/- Layer 11: a segment's state through Append; what the law's own row keeps. -/
/- Layer 11: Sync and Cut of any segment. -/
/- Layer 11: dropFrom, and Cut of any segment. -/
/- Layer 11: Cut of a segment at a batch's base. -/
/- Layer 11: Cut of a segment at its end. -/
/- Layer 11: dropFrom of a segment that lists no place; Cut of an empty segment. -/
/- Layer 11: Cut of a segment that has no batch. -/
/- Layer 11: a segment on a disk that other segments share: Append, Sync, Cut. -/
/- Layer 12: a segment's Append and Sync turn nothing outside a zone that holds the segment and its disk. -/
/- Layer 11: a segment on a disk that other segments share: Cut. -/
/- Layer 11: other segments stand where one is called. -/
import Derived.Test.YtcjlcieheepegaaGreatDoorRows
import Derived.Test.YtcjlcieheepegaaGreatDoorV27
import Derived.ProofKit
import Derived.Deep.Slices
import Derived.ChangeArms
import Derived.Test.YtcjlcieheepegaaGreatDoorV23
namespace Go.Proofs.YtcjlcieheepegaaGreatDoor
open Go.RowKit Go.Deep
set_option linter.unusedVariables false
set_option maxRecDepth 20000
set_option maxRecDepth 20000

theorem Tryz.cellsRcp : Tryz.prog.cellsOf 30 = 5 := by kernel_rfl
theorem Tryz.cellsInt' : Tryz.prog.cellsOf 3 = 1 := by kernel_rfl
theorem Tryz.cellsStr' : Tryz.prog.cellsOf 9 = 1 := by kernel_rfl
def RP.cs (x : RP) : List Value := [.int .i64 x.cnt, .int .i64 x.key, .int .i64 x.prod, .int .i64 x.seq, .string x.val]
theorem add_none' (b off n : Nat) : (⟨b, off, none⟩ : Addr).add n = ⟨b, off + n, none⟩ := by
  unfold Addr.add
  split
  · next h => subst h; rfl
  · rfl
theorem open_rcp {H : Type} {enc : TypeId × Value → H} {W : World} {n : Nat} {cs : List Value} {y : DataW H × List MemPlace} (h : DataW.trod enc Tryz.prog W 0 (fun _ => true) true n 30 cs = some y) :
    ∃ r : RP, cs = r.cs ∧ r.val.size ≤ maxLen := by
  obtain ⟨xs, n', _, rfl, hl, hlen, hf⟩ := DataW.trod_struct Tryz.underlying30 h
  rw [Tryz.cellsRcp] at hl
  match cs, hl, xs, hlen with
  | [c0, c1, c2, c3, c4], _, [y0, y1, y2, y3, y4], _ =>
    have f0 : DataW.trod enc Tryz.prog W 0 (fun _ => true) true n' 3 (([c0, c1, c2, c3, c4].drop 0).take (Tryz.prog.cellsOf 3)) = some y0 := hf 0 _ rfl
    have f1 : DataW.trod enc Tryz.prog W 0 (fun _ => true) true n' 3 (([c0, c1, c2, c3, c4].drop 1).take (Tryz.prog.cellsOf 3)) = some y1 := hf 1 _ rfl
    have f2 : DataW.trod enc Tryz.prog W 0 (fun _ => true) true n' 3 (([c0, c1, c2, c3, c4].drop 2).take (Tryz.prog.cellsOf 3)) = some y2 := hf 2 _ rfl
    have f3 : DataW.trod enc Tryz.prog W 0 (fun _ => true) true n' 3 (([c0, c1, c2, c3, c4].drop 3).take (Tryz.prog.cellsOf 3)) = some y3 := hf 3 _ rfl
    have f4 : DataW.trod enc Tryz.prog W 0 (fun _ => true) true n' 9 (([c0, c1, c2, c3, c4].drop 4).take (Tryz.prog.cellsOf 9)) = some y4 := hf 4 _ rfl
    rw [Tryz.cellsInt'] at f0 f1 f2 f3
    rw [Tryz.cellsStr'] at f4
    obtain ⟨k0, e0, z0, _⟩ := DataW.trod_int Tryz.underlying3 f0
    obtain ⟨k1, e1, z1, _⟩ := DataW.trod_int Tryz.underlying3 f1
    obtain ⟨k2, e2, z2, _⟩ := DataW.trod_int Tryz.underlying3 f2
    obtain ⟨k3, e3, z3, _⟩ := DataW.trod_int Tryz.underlying3 f3
    obtain ⟨s, e4, z4, hs⟩ := DataW.trod_string Tryz.underlying9 f4
    simp at e0 e1 e2 e3 e4
    subst e0 e1 e2 e3 e4
    exact ⟨⟨k0, k1, k2, k3, s⟩, rfl, hs⟩
/-- A slice of recipes. -/
def RIs (w : World) (a : Option Addr) (L : List RP) : Prop :=
  ∀ i r, L[i]? = some r → ∃ b off, a = some ⟨b, off, none⟩ ∧ b < w.heap.size ∧ w.cell? ⟨b, off + i * 5, none⟩ = some (.int .i64 r.cnt) ∧ w.cell? ⟨b, off + i * 5 + 1, none⟩ = some (.int .i64 r.key) ∧ w.cell? ⟨b, off + i * 5 + 2, none⟩ = some (.int .i64 r.prod) ∧ w.cell? ⟨b, off + i * 5 + 3, none⟩ = some (.int .i64 r.seq) ∧ w.cell? ⟨b, off + i * 5 + 4, none⟩ = some (.string r.val)
theorem RIs.below {w w' : World} {a : Option Addr} {L : List RP} {B : Nat} (h : RIs w a L) (hb : Below B w w') (hB : w.heap.size ≤ B) : RIs w' a L := by
  intro i r hr
  obtain ⟨b, off, h1, h2, h3, h4, h5, h6, h7⟩ := h i r hr
  exact ⟨b, off, h1, Nat.lt_of_lt_of_le h2 hb.size, by rw [cell_below hb (by omega)]; exact h3, by rw [cell_below hb (by omega)]; exact h4, by rw [cell_below hb (by omega)]; exact h5, by rw [cell_below hb (by omega)]; exact h6, by rw [cell_below hb (by omega)]; exact h7⟩
theorem open_rcps {H : Type} {enc : TypeId × Value → H} {W : World} {fuel : Nat} {a0 : Option Addr} {len cap : Nat} {x : DataW H × List MemPlace} (h : DataW.trod enc Tryz.prog W 0 (fun _ => true) true fuel 22 [.slice a0 len cap] = some x) :
    ∃ L : List RP, L.length = len ∧ RIs W a0 L ∧ (∀ r ∈ L, r.val.size ≤ 9223372036854775807) ∧ len ≤ 9223372036854775807 ∧ (L ≠ [] → ∃ b off, a0 = some ⟨b, off, none⟩) := by
  rcases open_slice Tryz.underlying22 h with ⟨h0, _⟩ | ⟨a, len', cap', m, n, D, Pl, hcs, _, hlc, hcm, hm, rfl, hx⟩
  · cases h0
    exact ⟨[], rfl, fun i r h => by simp at h, (fun r hr => by cases hr), by omega, fun h => absurd rfl h⟩
  · cases hcs
    rcases Nat.eq_zero_or_pos len with hz | hpos
    · subst hz
      exact ⟨[], rfl, fun i r h => by simp at h, (fun r hr => by cases hr), by omega, fun h => absurd rfl h⟩
    rw [Tryz.cellsRcp] at hx
    have hlm : len ≤ m := by rw [hm]; simp; exact hlc
    obtain ⟨b, off, spot⟩ := a
    have hcell : ∀ i, i < len → ∃ q : RP, (∀ j, j < 5 → W.cell? (((⟨b, off, spot⟩ : Addr).add (i * 5)).add j) = q.cs[j]?) ∧ q.val.size ≤ maxLen := by
      intro i hi
      obtain ⟨cs', h1, h2⟩ := hx i (by omega)
      obtain ⟨r, rfl, hv⟩ := open_rcp h2
      obtain ⟨_, _, h3⟩ := World.cells?_some h1
      exact ⟨r, h3, hv⟩
    have hch : ∃ Q : Nat → RP, ∀ i, i < len → (∀ j, j < 5 → W.cell? (((⟨b, off, spot⟩ : Addr).add (i * 5)).add j) = (Q i).cs[j]?) ∧ (Q i).val.size ≤ maxLen := by
      refine ⟨fun i => open Classical in if hi : i < len then (hcell i hi).choose else ⟨0, 0, 0, 0, ⟨#[]⟩⟩, fun i hi => ?_⟩
      simp only [dif_pos hi]
      exact (hcell i hi).choose_spec
    obtain ⟨Q, hQ⟩ := hch
    have hsp : spot = none := by
      have h0 := (hQ 0 hpos).1 0 (by omega)
      have := World.cell?_spot (w := W) (a := ⟨b, off, spot⟩) (v := .int .i64 (Q 0).cnt) (by simpa [Addr.add, RP.cs] using h0)
      exact this
    subst hsp
    have hlt : b < W.heap.size := by
      have h0 := (hQ 0 hpos).1 0 (by omega)
      exact World.block_lt_of_cell? W ⟨b, off, none⟩ (u := .int .i64 (Q 0).cnt) (by simpa [Addr.add, RP.cs] using h0)
    have had : ∀ i j, ((⟨b, off, none⟩ : Addr).add (i * 5)).add j = ⟨b, off + i * 5 + j, none⟩ := by
      intro i j
      rw [add_none', add_none']
    refine ⟨(List.range len).map Q, by simp, ?_, ?_, by unfold maxLen at hcm; omega, fun _ => ⟨b, off, rfl⟩⟩
    · intro i r hr
      have hi : i < len := by
        rcases Nat.lt_or_ge i len with h | h
        · exact h
        · rw [List.getElem?_eq_none (by simpa using h)] at hr; cases hr
      have hr' : Q i = r := by
        rw [List.getElem?_map, List.getElem?_range hi] at hr
        simpa using hr
      subst hr'
      have hc := (hQ i hi).1
      refine ⟨b, off, rfl, hlt, ?_, ?_, ?_, ?_, ?_⟩
      · have := hc 0 (by omega); rw [had] at this; simpa [RP.cs] using this
      · have := hc 1 (by omega); rw [had] at this; simpa [RP.cs] using this
      · have := hc 2 (by omega); rw [had] at this; simpa [RP.cs] using this
      · have := hc 3 (by omega); rw [had] at this; simpa [RP.cs] using this
      · have := hc 4 (by omega); rw [had] at this; simpa [RP.cs] using this
    · intro r hr
      simp only [List.mem_map, List.mem_range] at hr
      obtain ⟨i, hi, rfl⟩ := hr
      have := (hQ i hi).2
      unfold maxLen at this
      omega
end Go.Proofs.YtcjlcieheepegaaGreatDoor
namespace Go.Proofs.YtcjlcieheepegaaGreatDoor
open Go.RowKit
set_option linter.unusedVariables false
set_option maxRecDepth 20000
set_option maxRecDepth 20000

theorem map_plAt (base : Nat) (l m : List BT) (K : List Nat) (h : ∀ k ∈ K, k ≤ l.length) : K.map (plAt base (l ++ m)) = K.map (plAt base l) := by
  apply List.map_congr_left
  intro k hk
  exact plAt_append base l m k (h k hk)
theorem bytes_nat (l : List UInt8) : V8.bytesOf (mk l) = l.map UInt8.toNat := by
  unfold V8.bytesOf
  rw [mk_toList]
/-- A batch more. -/
theorem ss_append (w : World) (B Bd C s d base room cnt : Nat) (nm : ByteArray) (F : List UInt8 → Option (List Nat × Nat)) (l : List BT) (K : List Nat) (bt : BT) (hS : SS w B Bd s d base room cnt nm F l K) (hb : bt.ok) (hbase : bt.h.base = endB base l) (hT : TabF w) (hCB : C ≤ B) (hCd : C ≤ Bd) (hBw : B ≤ w.heap.size) (hr : szs l + bt.sz ≤ room) :
    Calls Tryz.prog 18 #[.pointer (some ⟨s, 0, none⟩), .string bt.s] w fun e w' => e = .returned (.int .i64 0) ∧ (∃ F' K' cnt', SS w' B Bd s d base room cnt' nm F' (l ++ [bt]) K') ∧ AF C s w w' := by
  obtain ⟨hl1, hl2⟩ := hS.len
  have hpf := plAt_full base l
  have hus : szs (l ++ [bt]) = szs l + bt.sz := by rw [szs_append, szs_one]
  have hall : (allB (l ++ [bt])).map UInt8.toNat = (allB l).map UInt8.toNat ++ V8.bytesOf bt.s := by
    rw [allB_append, List.map_append, bytes_nat]
    simp [allB]
  obtain ⟨F', cnt', hF', HDA⟩ : ∃ F' cnt', FileOf F' nm (l ++ [bt]) ∧ ∀ W, V8.VD W Bd d room F cnt (szs l) → Calls Tryz.prog 32 #[.pointer (some ⟨d, 0, none⟩), .string nm, .string bt.s] W fun e w' => e = .returned (.int .i64 0) ∧ V8.VD w' Bd d room F' cnt' (szs (l ++ [bt])) ∧ V8.VF Bd W w' := by
    rcases hS.file with ⟨h0, h1, h2⟩ | ⟨⟨y, hy⟩, h0⟩
    · refine ⟨V8.upd F nm.data.toList (some (V8.bytesOf bt.s, 0)), cnt + 1, ⟨0, ?_⟩, fun W hW => ?_⟩
      · rw [hall, h0]
        exact if_pos rfl
      · have := V8.append_none W Bd d room cnt (szs l) F hW nm bt.s hS.may h1 (by omega) (by rw [bt.size]; exact hr)
        rw [bt.size, ← hus] at this
        exact this
    · refine ⟨V8.upd F nm.data.toList (some ((allB l).map UInt8.toNat ++ V8.bytesOf bt.s, y)), cnt, ⟨y, ?_⟩, fun W hW => ?_⟩
      · rw [hall]
        exact if_pos rfl
      · have := V8.append_some W Bd d room cnt (szs l) F hW nm bt.s hS.may _ y hy (by rw [bt.size]; exact hr)
        rw [bt.size, ← hus] at this
        exact this
  have hKl : ∀ k ∈ K, k ≤ l.length := fun k hk => Nat.le_of_lt (hS.mks.lt k hk)
  have hKn : (K.map (plAt base l)).length ≤ 1073741824 := by
    rw [List.length_map]
    have : K.length ≤ l.length := by
      rcases Nat.lt_or_ge l.length K.length with hlt | hge
      · exfalso
        have hpw : ∀ i (hi : i < K.length), i ≤ K[i] := by
          intro i
          induction i with
          | zero => intro _; exact Nat.zero_le _
          | succ i ih =>
            intro hi
            have a := ih (by omega)
            have b := List.pairwise_iff_getElem.1 hS.mks.up i (i + 1) (by omega) hi (by omega)
            omega
        have a := hpw l.length hlt
        have b := hS.mks.lt _ (List.getElem_mem hlt)
        omega
      · exact hge
    omega
  have hg := sappend_gen w B Bd C s d base room cnt (szs l) cnt' (szs (l ++ [bt])) nm F F' _ _ bt hS.sg hS.vd hb hT (by rw [hpf]; exact hbase) hCB hCd hBw
    (by rw [hpf]; show szs l ≤ _; omega) (by rw [hpf]; show l.length ≤ _; omega) hKn
    (fun p hp => by
      obtain ⟨k, hk, rfl⟩ := List.mem_map.1 hp
      exact (plAt_le hS.ok (hKl k hk) (Nat.le_refl _)).2)
    HDA
  refine hg.mono ?_
  rintro e w' ⟨rfl, ⟨P', hsg, hP'⟩, hvd, haf⟩
  have hlast : plAt base (l ++ [bt]) (l ++ [bt]).length = ⟨bt.h.base + bt.h.cnt, (plAt base l l.length).byt + bt.sz, (plAt base l l.length).cnt + 1⟩ := by
    rw [plAt_full, hpf, endB_snoc, hus, hbase, List.length_append]
    rfl
  rw [← hlast] at hsg
  have hok : allOK (l ++ [bt]) := fun x hx => by
    rcases List.mem_append.1 hx with h | h
    · exact hS.ok x h
    · rw [List.mem_singleton] at h; subst h; exact hb
  have hch : chain base (l ++ [bt]) := chain_append.2 ⟨hS.ch, hbase, trivial⟩
  refine ⟨rfl, ?_, haf⟩
  rcases hP' with h | ⟨h, hne⟩
  · refine ⟨F', K ++ [l.length], cnt', ⟨?_, hvd, hS.may, .inr ⟨hF', by simp⟩, hch, hok, by rw [List.length_append]; exact hS.mks.add, hS.hb⟩⟩
    have e : (K ++ [l.length]).map (plAt base (l ++ [bt])) = P' := by
      rw [List.map_append, map_plAt base l [bt] K hKl, h]
      simp only [List.map_cons, List.map_nil]
      rw [plAt_append base l [bt] l.length (Nat.le_refl _)]
    rw [e]
    exact hsg
  · refine ⟨F', K, cnt', ⟨?_, hvd, hS.may, .inr ⟨hF', by simp⟩, hch, hok, by rw [List.length_append]; exact hS.mks.same (fun e => hne (by rw [e]; rfl)), hS.hb⟩⟩
    rw [map_plAt base l [bt] K hKl, ← h]
    exact hsg
/-- The disk is full. -/
theorem ss_disk (w : World) (B Bd s d base room cnt : Nat) (nm : ByteArray) (F : List UInt8 → Option (List Nat × Nat)) (l : List BT) (K : List Nat) (bt : BT) (hS : SS w B Bd s d base room cnt nm F l K) (hb : bt.ok) (hbase : bt.h.base = endB base l) (hT : TabF w) (hr : room < szs l + bt.sz) :
    Calls Tryz.prog 18 #[.pointer (some ⟨s, 0, none⟩), .string bt.s] w fun e w' => e = .returned (.int .i64 80) ∧ Below w.heap.size w w' := by
  refine sappend_disk w B Bd s d base room cnt (szs l) nm F _ _ bt hS.sg hS.vd hb hT (by rw [plAt_full]; exact hbase) (fun W hW => ?_)
  rcases hS.file with ⟨h0, h1, h2⟩ | ⟨⟨y, hy⟩, h0⟩
  · exact V8.append_disk_none W Bd d room cnt (szs l) F hW nm bt.s hS.may h1 (by omega) (by rw [bt.size]; exact hr)
  · exact V8.append_disk_some W Bd d room cnt (szs l) F hW nm bt.s hS.may _ y hy (by rw [bt.size]; exact hr)
theorem OwnS.af {w w' : World} {C Bh B s d base : Nat} {nm : ByteArray} {P : List Pl} {bh : Pl} {v : Value} {l : List BT} (h : OwnS w Bh v l) (hf : AF C s w w') (hS : SG w B s d nm base P bh) : OwnS w' Bh v l := by
  refine rowKeep h fun g cs e => hf.kept g _ _ _ e (by decide) (by decide) (by decide) ?_ (fun hr => ?_)
  · rintro rfl
    obtain ⟨pv, h1, _⟩ := hS.blk
    rw [h1] at e
    cases e
  · obtain ⟨_, cs', e'⟩ := hS.rowT hr
    rw [e] at e'
    cases e'
theorem strInfo : (Tryz.prog.info? 9).map (fun i => (i.zero, i.size, i.bytes)) = some (some (.string ⟨#[]⟩), 1, 16) := by kernel_rfl
theorem news1 (W : World) (a : Value) (t : TypeId) : ∀ j u, [a][j]? = some u → (W.alloc (.cells #[a] t)).cell? ((⟨W.heap.size, 0, none⟩ : Addr).add j) = some u :=
  World.news_of_block (heap_alloc_new W _)
theorem one1 (a : ByteArray) : ∀ u ∈ [Value.string a], u.oneCell' = true := by
  intro u hu; simp at hu; subst hu; rfl
/-- A segment's state where rows of the law's own turn. -/
theorem SS.grown {w w' : World} {B Bd s d base room cnt Bh : Nat} {nm : ByteArray} {F : List UInt8 → Option (List Nat × Nat)} {l : List BT} {K : List Nat} {v : Value} {m : List BT} (h : SS w B Bd s d base room cnt nm F l K) (ho : OwnS w Bh v m) (hg : w.grownBy w' v.ownBlock) : SS w' B Bd s d base room cnt nm F l K := by
  have hk : ∀ (i : Nat) (o : Obj), w.heap[i]? = some o → (∀ cs mk, o ≠ .cells cs 9 mk) → w'.heap[i]? = w.heap[i]? := fun i o hi ht => by
    have hil : i < w.heap.size := by
      rcases Nat.lt_or_ge i w.heap.size with h | h
      · exact h
      · rw [Array.getElem?_eq_none h] at hi; cases hi
    refine hg.block i hil (fun e => ?_)
    obtain ⟨_, cs, e'⟩ := rowBlk ho e.symm
    rw [hi] at e'
    cases e'
    exact ht _ _ rfl
  refine ⟨h.sg.keep fun i cs t mk hi ht => hk i _ hi (fun cs' mk' e => ?_), h.vd.typed (fun i cs t mk hi ht => hk i _ hi (fun cs' mk' e => ?_)) (fun i es c hi => hk i _ hi (fun cs' mk' e => by cases e)), h.may, h.file, h.ch, h.ok, h.mks, h.hb⟩
  · cases e
    rcases ht with h | h <;> revert h <;> decide
  · cases e
    rcases ht with h | h | h <;> revert h <;> decide
end Go.Proofs.YtcjlcieheepegaaGreatDoor
namespace Go.Proofs.YtcjlcieheepegaaGreatDoor
open Go.RowKit
set_option linter.unusedVariables false
set_option maxRecDepth 20000
set_option maxRecDepth 20000

theorem unlessNone_ok (w : World) (e : Int) (r : Int) (h : (e = 3 ∧ r = 0) ∨ (e ≠ 3 ∧ r = e)) : Calls Tryz.prog 57 #[.int .i64 e] w fun x w' => x = .returned (.int .i64 r) ∧ w' = w := by
  rcases h with ⟨rfl, rfl⟩ | ⟨h, rfl⟩
  · go_enter Tryz.func57, Tryz.ntmps57
    go_wp2
    go_ret
    exact ⟨rfl, rfl⟩
  · have h' : (r == 3) = false := by simp [h]
    clear h
    go_enter Tryz.func57, Tryz.ntmps57
    go_wp2
    go_ret
    exact ⟨rfl, rfl⟩
set_option maxHeartbeats 2000000 in
theorem ssync_gen (w : World) (B Bd s d base room cnt us cnt' us' : Nat) (nm : ByteArray) (F F' : List UInt8 → Option (List Nat × Nat)) (P : List Pl) (bh : Pl) (c : Int) (hc : c = 3 ∨ c = 0) (hS : SG w B s d nm base P bh) (hD : V8.VD w Bd d room F cnt us)
    (HDS : ∀ W, V8.VD W Bd d room F cnt us → Calls Tryz.prog 58 #[.pointer (some ⟨d, 0, none⟩), .string nm] W fun e w' => e = .returned (.int .i64 c) ∧ V8.VD w' Bd d room F' cnt' us' ∧ V8.VF Bd W w') :
    Calls Tryz.prog 34 #[.pointer (some ⟨s, 0, none⟩)] w fun e w' => e = .returned (.int .i64 0) ∧ V8.VD w' Bd d room F' cnt' us' ∧ V8.VF Bd w.drew w' := by
  have HG := hide (sgiven_yes s w hS.cells.1)
  have HU := hide (fun W => unlessNone_ok W c 0 (by rcases hc with h | h <;> subst h <;> simp))
  have HS := hide hS
  have hD' := hD.below (belD w)
  have HDS' := hide (HDS w.drew hD')
  obtain ⟨c0, c1, c2, c3, c5, c6, c7⟩ := hS.cells
  have e1 : w.drew.cell? ⟨s, 1, none⟩ = some (.pointer (some ⟨d, 0, none⟩)) := c1
  have e2 : w.drew.cell? ⟨s, 2, none⟩ = some (.string nm) := c2
  clear HDS hD hD' hS c0 c1 c2 c3 c5 c6 c7 hc
  go_enter Tryz.func34, Tryz.ntmps34
  go_wp2_with fail
  refine HG.out.mono ?_
  rintro e W ⟨rfl, hW⟩
  obtain rfl := hW.symm
  clear HG hW
  go_upto_region 3 with fail
  go_region_held_law (fun w' => w'.cell? ⟨s, 1, none⟩ = some (.pointer (some ⟨d, 0, none⟩)) ∧ w'.cell? ⟨s, 2, none⟩ = some (.string nm))
    (first | exact ⟨e1, e2⟩ | go_keep)
    (first
      | (go_at_call 58; refine HDS'.out.mono ?_; rintro e w4 ⟨rfl, hD4, hV4⟩; have hk4 : w4.cell? ⟨s, 1, none⟩ = some (.pointer (some ⟨d, 0, none⟩)) ∧ w4.cell? ⟨s, 2, none⟩ = some (.string nm) := ⟨((HS.out.below (belD w)).vf hV4).cells.2.1, ((HS.out.below (belD w)).vf hV4).cells.2.2.1⟩; have H4 := hide (And.intro hD4 hV4); clear hD4 hV4)
      | (go_at_call 57; refine (HU.out _).mono ?_; rintro e Wz ⟨rfl, rfl⟩))
  clear hk4 e1 e2
  go_wp2
  go_ret
  exact ⟨rfl, H4.out.1, H4.out.2⟩
/-- Sync. -/
theorem ss_sync (w : World) (B Bd C s d base room cnt : Nat) (nm : ByteArray) (F : List UInt8 → Option (List Nat × Nat)) (l : List BT) (K : List Nat) (hS : SS w B Bd s d base room cnt nm F l K) (hC : C ≤ Bd) (hCw : C ≤ w.heap.size) :
    Calls Tryz.prog 34 #[.pointer (some ⟨s, 0, none⟩)] w fun e w' => e = .returned (.int .i64 0) ∧ (∃ F', SS w' B Bd s d base room cnt nm F' l K) ∧ AF C s w w' := by
  rcases hS.file with ⟨h0, h1, h2⟩ | ⟨⟨y, hy⟩, h0⟩
  · refine (ssync_gen w B Bd s d base room cnt (szs l) cnt (szs l) nm F F _ _ 3 (.inl rfl) hS.sg hS.vd (fun W hW => (V8.sync_none W Bd d room cnt (szs l) F hW nm hS.may h1).mono fun e w' ⟨a, b⟩ => ⟨a, by rw [b]; exact hW, by rw [b]; exact V8.VF.refl _ _⟩)).mono ?_
    rintro e w' ⟨rfl, hvd, hvf⟩
    have hsg := (hS.sg.below (belD w)).vf hvf
    exact ⟨rfl, ⟨F, hsg, hvd, hS.may, hS.file, hS.ch, hS.ok, hS.mks, hS.hb⟩, (AF.of (belD w) hCw hS.sg.lt).trans (AF.vf hvf hC (hS.sg.below (belD w)))⟩
  · refine (ssync_gen w B Bd s d base room cnt (szs l) cnt (szs l) nm F _ _ _ 0 (.inr rfl) hS.sg hS.vd (fun W hW => V8.sync_some W Bd d room cnt (szs l) F hW nm hS.may _ y hy)).mono ?_
    rintro e w' ⟨rfl, hvd, hvf⟩
    have hsg := (hS.sg.below (belD w)).vf hvf
    exact ⟨rfl, ⟨_, hsg, hvd, hS.may, .inr ⟨⟨_, if_pos rfl⟩, h0⟩, hS.ch, hS.ok, hS.mks, hS.hb⟩, (AF.of (belD w) hCw hS.sg.lt).trans (AF.vf hvf hC (hS.sg.below (belD w)))⟩
end Go.Proofs.YtcjlcieheepegaaGreatDoor
namespace Go.Proofs.YtcjlcieheepegaaGreatDoor
open Go.RowKit
set_option linter.unusedVariables false
set_option maxRecDepth 20000
set_option maxRecDepth 20000

theorem row_shrink {w : World} {B g cap n : Nat} {P : List Pl} (hrow : w.ownsRow B 68 3 (.slice (some ⟨g, 0, none⟩) n cap) n (plc P)) (hn : P.length = n) (m : Nat) (hm : m ≤ n) :
    w.ownsRow B 68 3 (.slice (some ⟨g, 0, none⟩) m cap) m (plc (P.take m)) := by
  subst hn
  have e : plc P = plc (P.take m) ++ plc (P.drop m) := by rw [← plc_append, List.take_append_drop]
  have hl : (plc (P.take m)).length = m * 3 := by rw [plc_length, List.length_take, Nat.min_eq_left hm]
  refine ⟨by rw [hl], ?_⟩
  rcases hrow.2 with ⟨h, _⟩ | ⟨g', cap', cur, h, h1, h2, h3, h4, h5, h6⟩
  · cases h
  · cases h
    refine .inr ⟨g, cap, cur, rfl, h1, h2, by omega, h4, h5, ?_⟩
    have := congrArg (List.take (m * 3)) h6
    rw [List.take_take, Nat.min_eq_left (by omega), e] at this
    rw [this, ← hl, List.take_left]
theorem TK.same4 {B s g m n cap : Nat} {w : World} {cs : Array Value} {t : TypeId} {xs : List Value} (hs : w.heap[s]? = some (.cells cs t (0, 0))) (hc : cs[4]? = some (.slice (some ⟨g, 0, none⟩) n cap)) (hrow : w.ownsRow B 68 3 (.slice (some ⟨g, 0, none⟩) n cap) n xs) (hgs : g ≠ s) (hBw : B ≤ w.heap.size) (hB : B ≤ s) : TK B s w (w.setCell ⟨s, 4, none⟩ (.slice (some ⟨g, 0, none⟩) m cap)) :=
  TK.push hs hc ⟨rfl, rfl, rfl, Nat.le_refl _, fun _ _ _ => rfl⟩ (fun e => hgs (by simpa [Value.ownBlock] using e)) (fun k hk => (rowBlk hrow hk).1) hBw hB (.inl rfl)
/-- What dropFrom's loop keeps: the first so many places. -/
structure DL (w wr : World) (B s d base : Nat) (nm : ByteArray) (P : List Pl) (bh : Pl) (g cap m X : Nat) (at_ : Pl) : Prop where
  blk : wr.heap[s]? = some (.cells #[.pointer (some ⟨s, 0, none⟩), .pointer (some ⟨d, 0, none⟩), .string nm, .int .i64 (base : Nat), .slice (some ⟨g, 0, none⟩) m cap, .int .i64 (bh.off : Nat), .int .i64 (bh.byt : Nat), .int .i64 (bh.cnt : Nat)] 71 (0, 0))
  row : wr.ownsRow B 68 3 (.slice (some ⟨g, 0, none⟩) m cap) m (plc (P.take m))
  x : wr.heap[X]? = some (.cells #[.int .i64 (at_.off : Nat), .int .i64 (at_.byt : Nat), .int .i64 (at_.cnt : Nat)] 68 (0, 0))
  tk : TK B s w wr
  gX : g ≠ X
  all : ∀ i p, m ≤ i → P[i]? = some p → at_.byt ≤ p.byt
/-- What dropFrom leaves. -/
def DropEnd (w : World) (B s d base : Nat) (nm : ByteArray) (P : List Pl) (at_ : Pl) (e : Ending) (w' : World) : Prop :=
  e = .returned (.tuple #[]) ∧ TK B s w w' ∧ ∃ m, m ≤ P.length ∧ SG w' B s d nm base (P.take m) at_ ∧ (∀ i p, m ≤ i → P[i]? = some p → at_.byt ≤ p.byt) ∧ (m = 0 ∨ ∃ p, P[m - 1]? = some p ∧ p.byt < at_.byt)
end Go.Proofs.YtcjlcieheepegaaGreatDoor
namespace Go.Proofs.YtcjlcieheepegaaGreatDoor
open Go.RowKit
set_option linter.unusedVariables false
set_option maxRecDepth 20000
set_option maxRecDepth 20000

end Go.Proofs.YtcjlcieheepegaaGreatDoor
namespace Go.Proofs.YtcjlcieheepegaaGreatDoor
open Go.RowKit
set_option linter.unusedVariables false
set_option maxRecDepth 20000
set_option maxRecDepth 20000

end Go.Proofs.YtcjlcieheepegaaGreatDoor
namespace Go.Proofs.YtcjlcieheepegaaGreatDoor
open Go.RowKit
set_option linter.unusedVariables false
set_option maxRecDepth 20000
set_option maxRecDepth 20000

end Go.Proofs.YtcjlcieheepegaaGreatDoor
namespace Go.Proofs.YtcjlcieheepegaaGreatDoor
open Go.RowKit
set_option linter.unusedVariables false
set_option maxRecDepth 20000
set_option maxRecDepth 20000

end Go.Proofs.YtcjlcieheepegaaGreatDoor
namespace Go.Proofs.YtcjlcieheepegaaGreatDoor
open Go.RowKit
set_option linter.unusedVariables false
set_option maxRecDepth 20000
set_option maxRecDepth 20000

/-- A segment that holds batches, on a disk that it may share. -/
structure SN (w : World) (B s d base : Nat) (nm : ByteArray) (F : List UInt8 → Option (List Nat × Nat)) (l : List BT) (K : List Nat) : Prop where
  sg : SG w B s d nm base (K.map (plAt base l)) (plAt base l l.length)
  may : V8.May nm
  file : (l = [] ∧ F nm.data.toList = none) ∨ FileOf F nm l
  ch : chain base l
  ok : allOK l
  mks : Marks l.length K
theorem SN.keep {w w' : World} {B s d base : Nat} {nm : ByteArray} {F F' : List UInt8 → Option (List Nat × Nat)} {l : List BT} {K : List Nat} (h : SN w B s d base nm F l K) (hg : SG w' B s d nm base (K.map (plAt base l)) (plAt base l l.length)) (hF : F' nm.data.toList = F nm.data.toList) : SN w' B s d base nm F' l K := by
  refine ⟨hg, h.may, ?_, h.ch, h.ok, h.mks⟩
  rcases h.file with ⟨a, b⟩ | ⟨y, hy⟩
  · exact .inl ⟨a, hF.trans b⟩
  · exact .inr ⟨y, hF.trans hy⟩
theorem Marks.len_le {n : Nat} {K : List Nat} (h : Marks n K) : K.length ≤ n := by
  rcases Nat.lt_or_ge n K.length with hlt | hge
  · exfalso
    have hpw : ∀ i (hi : i < K.length), i ≤ K[i] := by
      intro i
      induction i with
      | zero => intro _; exact Nat.zero_le _
      | succ i ih =>
        intro hi
        have a := ih (by omega)
        have b := List.pairwise_iff_getElem.1 h.up i (i + 1) (by omega) hi (by omega)
        omega
    have a := hpw n hlt
    have b := h.lt _ (List.getElem_mem hlt)
    omega
  · exact hge
/-- What the marks and the bytes are behind a cut. -/
theorem cut_list {base : Nat} {l : List BT} {K : List Nat} (ho : allOK l) (hK : Marks l.length K) (i m : Nat) (hi : i ≤ l.length) (hm1 : m ≤ K.length)
    (hall : ∀ j p, m ≤ j → (K.map (plAt base l))[j]? = some p → (plAt base l i).byt ≤ p.byt) (hlast : m = 0 ∨ ∃ p, (K.map (plAt base l))[m - 1]? = some p ∧ p.byt < (plAt base l i).byt) :
    (K.map (plAt base l)).take m = (K.take m).map (plAt base (l.take i)) ∧ Marks (l.take i).length (K.take m) ∧ plAt base l i = plAt base (l.take i) (l.take i).length ∧ (allB l).take (plAt base l i).byt = allB (l.take i) := by
  have hli : (l.take i).length = i := by rw [List.length_take, Nat.min_eq_left hi]
  have hpl : ∀ k, k ≤ i → plAt base l k = plAt base (l.take i) k := fun k hk => by
    have := plAt_append base (l.take i) (l.drop i) k (by omega)
    rw [List.take_append_drop] at this
    exact this
  have hlt : ∀ k ∈ K.take m, k < i := by
    intro k hk
    rcases hlast with rfl | ⟨p, hp, hpb⟩
    · simp at hk
    · obtain ⟨q, hq, rfl⟩ := List.mem_iff_getElem.1 hk
      rw [List.length_take] at hq
      have hm0 : m - 1 < K.length := by omega
      rw [List.getElem?_map, List.getElem?_eq_getElem hm0] at hp
      simp only [Option.map_some, Option.some.injEq] at hp
      subst hp
      have h1 : K[m - 1] < i := by
        rcases Nat.lt_or_ge K[m - 1] i with h | h
        · exact h
        · have := (plAt_le (base := base) ho h (Nat.le_of_lt (hK.lt _ (List.getElem_mem hm0)))).2
          omega
      rw [List.getElem_take]
      rcases Nat.lt_or_eq_of_le (show q ≤ m - 1 by omega) with h | h
      · have := List.pairwise_iff_getElem.1 hK.up q (m - 1) (by omega) hm0 h
        omega
      · subst h; exact h1
  refine ⟨?_, ⟨hK.up.sublist (List.take_sublist _ _), fun k hk => by rw [hli]; exact hlt k hk, fun h0 => ?_⟩, ?_, ?_⟩
  · rw [← List.map_take]
    exact List.map_congr_left fun k hk => hpl k (Nat.le_of_lt (hlt k hk))
  · rw [hli] at h0
    have hf := hK.first (by omega)
    cases K with
    | nil => cases hf
    | cons a K =>
      simp only [List.head?_cons, Option.some.injEq] at hf
      subst hf
      cases m with
      | zero =>
        have h1 := hall 0 (plAt base l 0) (Nat.le_refl _) rfl
        have h2 := (plAt_lt (base := base) ho (show 0 < i by omega) hi).2
        omega
      | succ m => rfl
  · rw [hli]; exact hpl i (Nat.le_refl _)
  · have e : allB l = allB (l.take i) ++ allB (l.drop i) := by rw [← allB_append, List.take_append_drop]
    rw [e]
    exact List.take_left
/-- A batch more. -/
theorem sn_append (w : World) (B Bd C s d base room cnt us : Nat) (nm : ByteArray) (F : List UInt8 → Option (List Nat × Nat)) (l : List BT) (K : List Nat) (bt : BT) (hS : SN w B s d base nm F l K) (hD : V8.VD w Bd d room F cnt us) (hb : bt.ok) (hbase : bt.h.base = endB base l) (hT : TabF w) (hCB : C ≤ B) (hCd : C ≤ Bd) (hBw : B ≤ w.heap.size) (hl1 : l.length ≤ 1073741824) (hl2 : szs l ≤ 1073741824) (hr : us + bt.sz ≤ room) (hcn : cnt < 256) :
    Calls Tryz.prog 18 #[.pointer (some ⟨s, 0, none⟩), .string bt.s] w fun e w' => e = .returned (.int .i64 0) ∧ (∃ o K' cnt', SN w' B s d base nm (V8.upd F nm.data.toList o) (l ++ [bt]) K' ∧ V8.VD w' Bd d room (V8.upd F nm.data.toList o) cnt' (us + bt.sz) ∧ ((F nm.data.toList = none ∧ cnt' = cnt + 1) ∨ (F nm.data.toList ≠ none ∧ cnt' = cnt))) ∧ AF C s w w' := by
  have hpf := plAt_full base l
  have hall : (allB (l ++ [bt])).map UInt8.toNat = (allB l).map UInt8.toNat ++ V8.bytesOf bt.s := by
    rw [allB_append, List.map_append, bytes_nat]
    simp [allB]
  obtain ⟨o, cnt', hF', hcc, HDA⟩ : ∃ o cnt', FileOf (V8.upd F nm.data.toList o) nm (l ++ [bt]) ∧ ((F nm.data.toList = none ∧ cnt' = cnt + 1) ∨ (F nm.data.toList ≠ none ∧ cnt' = cnt)) ∧ ∀ W, V8.VD W Bd d room F cnt us → Calls Tryz.prog 32 #[.pointer (some ⟨d, 0, none⟩), .string nm, .string bt.s] W fun e w' => e = .returned (.int .i64 0) ∧ V8.VD w' Bd d room (V8.upd F nm.data.toList o) cnt' (us + bt.sz) ∧ V8.VF Bd W w' := by
    rcases hS.file with ⟨h0, h1⟩ | ⟨y, hy⟩
    · refine ⟨some (V8.bytesOf bt.s, 0), cnt + 1, ⟨0, ?_⟩, .inl ⟨h1, rfl⟩, fun W hW => ?_⟩
      · rw [hall, h0]
        exact if_pos rfl
      · have := V8.append_none W Bd d room cnt us F hW nm bt.s hS.may h1 hcn (by rw [bt.size]; exact hr)
        rw [bt.size] at this
        exact this
    · refine ⟨some ((allB l).map UInt8.toNat ++ V8.bytesOf bt.s, y), cnt, ⟨y, ?_⟩, .inr ⟨by rw [hy]; simp, rfl⟩, fun W hW => ?_⟩
      · rw [hall]
        exact if_pos rfl
      · have := V8.append_some W Bd d room cnt us F hW nm bt.s hS.may _ y hy (by rw [bt.size]; exact hr)
        rw [bt.size] at this
        exact this
  have hKl : ∀ k ∈ K, k ≤ l.length := fun k hk => Nat.le_of_lt (hS.mks.lt k hk)
  have hKn : (K.map (plAt base l)).length ≤ 1073741824 := by
    rw [List.length_map]
    have := hS.mks.len_le
    omega
  have hg := sappend_gen w B Bd C s d base room cnt us cnt' (us + bt.sz) nm F _ _ _ bt hS.sg hD hb hT (by rw [hpf]; exact hbase) hCB hCd hBw
    (by rw [hpf]; exact hl2) (by rw [hpf]; exact hl1) hKn
    (fun p hp => by
      obtain ⟨k, hk, rfl⟩ := List.mem_map.1 hp
      exact (plAt_le hS.ok (hKl k hk) (Nat.le_refl _)).2)
    HDA
  refine hg.mono ?_
  rintro e w' ⟨rfl, ⟨P', hsg, hP'⟩, hvd, haf⟩
  have hlast : plAt base (l ++ [bt]) (l ++ [bt]).length = ⟨bt.h.base + bt.h.cnt, (plAt base l l.length).byt + bt.sz, (plAt base l l.length).cnt + 1⟩ := by
    rw [plAt_full, hpf, endB_snoc, szs_append, szs_one, hbase, List.length_append]
    rfl
  rw [← hlast] at hsg
  have hok : allOK (l ++ [bt]) := fun x hx => by
    rcases List.mem_append.1 hx with h | h
    · exact hS.ok x h
    · rw [List.mem_singleton] at h; subst h; exact hb
  have hch : chain base (l ++ [bt]) := chain_append.2 ⟨hS.ch, hbase, trivial⟩
  refine ⟨rfl, ?_, haf⟩
  rcases hP' with h | ⟨h, hne⟩
  · refine ⟨o, K ++ [l.length], cnt', ⟨?_, hS.may, .inr hF', hch, hok, by rw [List.length_append]; exact hS.mks.add⟩, hvd, hcc⟩
    have e : (K ++ [l.length]).map (plAt base (l ++ [bt])) = P' := by
      rw [List.map_append, map_plAt base l [bt] K hKl, h]
      simp only [List.map_cons, List.map_nil]
      rw [plAt_append base l [bt] l.length (Nat.le_refl _)]
    rw [e]
    exact hsg
  · refine ⟨o, K, cnt', ⟨?_, hS.may, .inr hF', hch, hok, by rw [List.length_append]; exact hS.mks.same (fun e => hne (by rw [e]; rfl))⟩, hvd, hcc⟩
    rw [map_plAt base l [bt] K hKl, ← h]
    exact hsg
/-- Sync. -/
theorem sn_sync (w : World) (B Bd C s d base room cnt us : Nat) (nm : ByteArray) (F : List UInt8 → Option (List Nat × Nat)) (l : List BT) (K : List Nat) (hS : SN w B s d base nm F l K) (hD : V8.VD w Bd d room F cnt us) (hC : C ≤ Bd) (hCw : C ≤ w.heap.size) :
    Calls Tryz.prog 34 #[.pointer (some ⟨s, 0, none⟩)] w fun e w' => e = .returned (.int .i64 0) ∧ (∃ o, SN w' B s d base nm (V8.upd F nm.data.toList o) l K ∧ V8.VD w' Bd d room (V8.upd F nm.data.toList o) cnt us) ∧ AF C s w w' := by
  rcases hS.file with ⟨h0, h1⟩ | ⟨y, hy⟩
  · refine (ssync_gen w B Bd s d base room cnt us cnt us nm F F _ _ 3 (.inl rfl) hS.sg hD (fun W hW => (V8.sync_none W Bd d room cnt us F hW nm hS.may h1).mono fun e w' ⟨a, b⟩ => ⟨a, by rw [b]; exact hW, by rw [b]; exact V8.VF.refl _ _⟩)).mono ?_
    rintro e w' ⟨rfl, hvd, hvf⟩
    have hsg := (hS.sg.below (belD w)).vf hvf
    have hu : V8.upd F nm.data.toList none = F := by
      funext t
      unfold V8.upd
      split
      · rename_i h; rw [h, h1]
      · rfl
    exact ⟨rfl, ⟨none, by rw [hu]; exact hS.keep hsg rfl, by rw [hu]; exact hvd⟩, (AF.of (belD w) hCw hS.sg.lt).trans (AF.vf hvf hC (hS.sg.below (belD w)))⟩
  · refine (ssync_gen w B Bd s d base room cnt us cnt us nm F _ _ _ 0 (.inr rfl) hS.sg hD (fun W hW => V8.sync_some W Bd d room cnt us F hW nm hS.may _ y hy)).mono ?_
    rintro e w' ⟨rfl, hvd, hvf⟩
    have hsg := (hS.sg.below (belD w)).vf hvf
    exact ⟨rfl, ⟨_, ⟨hsg, hS.may, .inr ⟨_, if_pos rfl⟩, hS.ch, hS.ok, hS.mks⟩, hvd⟩, (AF.of (belD w) hCw hS.sg.lt).trans (AF.vf hvf hC (hS.sg.below (belD w)))⟩
end Go.Proofs.YtcjlcieheepegaaGreatDoor
namespace Go.Proofs.YtcjlcieheepegaaGreatDoor
open Go.RowKit
open V8 (VX KO Zn)
set_option linter.unusedVariables false
set_option maxRecDepth 20000
set_option maxRecDepth 20000

theorem TK.vx {B s d base : Nat} {nm : ByteArray} {P : List Pl} {bh : Pl} {w w' : World} {Bd d' room cnt us : Nat} {F : List UInt8 → Option (List Nat × Nat)} {O : Nat → Prop} (h : TK B s w w') (hS : SG w B s d nm base P bh) (hd : VX w Bd d' room F cnt us O) : VX w' Bd d' room F cnt us O := by
  obtain ⟨pv, h1, h2⟩ := hS.blk
  refine hd.typed (fun i cs' t mk hi ht => h.kept i (lt_of_block hi) ?_ (fun hr => ?_)) (fun i es c hi => h.kept i ?_ ?_ (fun hr => ?_))
  · rintro rfl
    rw [h1] at hi
    cases hi
    rcases ht with h | h | h <;> revert h <;> decide
  · obtain ⟨_, cs, e⟩ := hS.rowT hr
    rw [hi] at e
    cases e
    rcases ht with h | h | h <;> revert h <;> decide
  · rcases Nat.lt_or_ge i w.heap.size with h | h
    · exact h
    · rw [Array.getElem?_eq_none h] at hi; cases hi
  · rintro rfl
    rw [h1] at hi
    cases hi
  · obtain ⟨_, cs, e⟩ := hS.rowT hr
    rw [hi] at e
    cases e
set_option maxHeartbeats 4000000 in
theorem sappend_x (w : World) (B Bd C s d base room cnt us cnt' us' : Nat) (nm : ByteArray) (F F' : List UInt8 → Option (List Nat × Nat)) (P : List Pl) (bh : Pl) (bt : BT) (O : Nat → Prop) (hOs : O s) (hOr : ∀ j, rowOf w s = some j → O j) (hS : SG w B s d nm base P bh) (hD : VX w Bd d room F cnt us O) (hb : bt.ok) (hT : TabF w) (hbase : bt.h.base = bh.off) (hCB : C ≤ B) (hCd : C ≤ Bd) (hBw : B ≤ w.heap.size)
    (hp : bh.byt ≤ 1073741824) (hc : bh.cnt ≤ 1073741824) (hPl : P.length ≤ 1073741824) (hlb : ∀ p ∈ P, p.byt ≤ bh.byt)
    (HDA : ∀ W, VX W Bd d room F cnt us O → Calls Tryz.prog 32 #[.pointer (some ⟨d, 0, none⟩), .string nm, .string bt.s] W fun e w' => e = .returned (.int .i64 0) ∧ VX w' Bd d room F' cnt' us' (Zn O W) ∧ V8.VF Bd W w' ∧ KO O W w') :
    Calls Tryz.prog 18 #[.pointer (some ⟨s, 0, none⟩), .string bt.s] w fun e w' => e = .returned (.int .i64 0) ∧ (∃ P', SG w' B s d nm base P' ⟨bt.h.base + bt.h.cnt, bh.byt + bt.sz, bh.cnt + 1⟩ ∧ (P' = P ++ [bh] ∨ (P' = P ∧ P ≠ []))) ∧ VX w' Bd d room F' cnt' us' (Zn O w) ∧ AF C s w w' ∧ KO O w w' := by
  have HG := hide (sgiven_yes s w hS.cells.1)
  have HO := hide (bof_ok bt.h hb.ok bt.p [] bt.L w hT hb.hp (by simp) hb.of hb.len hb.within)
  rw [List.append_nil] at HO
  have HH := hide (And.intro hS (And.intro hD (And.intro hb.ok (And.intro hCB (And.intro hCd hBw)))))
  have HX := hide (And.intro hp (And.intro hc (And.intro hPl hlb)))
  have hsz := bt.size
  have hN1 : bt.sz ≤ 1048576 := by have := BT.sz_le hb; omega
  have HDA' := hide HDA
  have HZ : Hid (O s ∧ (∀ j, rowOf w s = some j → O j)) := ⟨hOs, hOr⟩
  obtain ⟨N, hN⟩ : ∃ N, bt.sz = N := ⟨_, rfl⟩
  have hN' : 39 + bt.p.length = N := hN
  obtain ⟨b, hbb⟩ : ∃ b, bt.s = b := ⟨_, rfl⟩
  have hbb' : mk (batL bt.h bt.p) = b := hbb
  rw [hN'] at HO
  rw [hN] at hsz hN1 ⊢
  rw [hbb'] at HO
  rw [hbb] at hsz HDA' ⊢
  clear hS hD hOs hOr hb hT hCB hCd hBw hbb hN hN' hbb' hp hc hPl hlb HDA
  go_enter Tryz.func18, Tryz.ntmps18
  go_wp2_with fail
  refine HG.out.mono ?_
  rintro e W ⟨rfl, hW⟩
  obtain rfl := hW.symm
  clear HG hW
  go_wp2_with fail
  refine HO.out.mono ?_
  rintro e w1 ⟨a1, cap1, rfl, hb1⟩
  clear HO
  obtain ⟨⟨xb, xc, xv, xp, xs, xn⟩, L⟩ := bt
  obtain ⟨bo, bb, bc⟩ := bh
  unfold HN.bv
  simp only at HH hbase ⊢
  subst hbase
  obtain ⟨U, hU⟩ : ∃ U, w1.heap.size = U := ⟨_, rfl⟩
  obtain ⟨LL, hLL⟩ : ∃ LL, L.length = LL := ⟨_, rfl⟩
  rw [hLL]
  have hba := below_a w1 (.cells #[.int .i64 (xb : Nat), .int .i64 (xc : Nat), .int .i64 (xv : Nat), .int .i64 (xp : Nat), .int .i64 (xs : Nat), .slice a1 LL cap1] 46)
  have H1 := hide (And.intro (hb1.trans (hba.mono hb1.size)) (heap_alloc_new w1 (.cells #[.int .i64 (xb : Nat), .int .i64 (xc : Nat), .int .i64 (xv : Nat), .int .i64 (xp : Nat), .int .i64 (xs : Nat), .slice a1 LL cap1] 46)))
  rw [hU] at H1
  clear hb1 hba hLL
  have hne : (((N : Nat) : Int) != (b.size : Int)) = false := by rw [hsz]; simp
  clear hsz
  go_upto_region 4 with fail
  try rw [hU]
  generalize (w1.alloc (.cells #[.int .i64 (xb : Nat), .int .i64 (xc : Nat), .int .i64 (xv : Nat), .int .i64 (xp : Nat), .int .i64 (xs : Nat), .slice a1 LL cap1] 46)) = w2 at H1
  clear hU
  have hS2 := HH.out.1.below H1.out.1
  obtain ⟨c0, c1, c2, c3, c5, c6, c7⟩ := hS2.cells
  obtain ⟨z0, z1, z2, z3, z4, z5⟩ := cells6 H1.out.2
  simp only at c5 c6 c7
  clear c0 c3 c6 c7 z1 z2 z3 z4 z5
  have HS2 := hide hS2
  clear hS2
  go_upto_region 6 with fail
  clear hne
  go_region
  go_upto_region 8 with fail
  have H3 : Hid (SG w2.drew B s d nm base P ⟨xb, bb, bc⟩ ∧ Below w.heap.size w w2.drew ∧ w2.drew.heap[U]? = some (.cells #[.int .i64 (xb : Nat), .int .i64 (xc : Nat), .int .i64 (xv : Nat), .int .i64 (xp : Nat), .int .i64 (xs : Nat), .slice a1 LL cap1] 46 (0, 0))) := ⟨HS2.out.below (belD w2), H1.out.1.trans ((belD w2).mono H1.out.1.size), H1.out.2⟩
  clear c1 c2 c5 z0 HS2 H1
  generalize w2.drew = w3 at H3
  obtain ⟨c0, c1, c2, c3, c5, c6, c7⟩ := H3.out.1.cells
  have e1 : w3.drew.cell? ⟨s, 1, none⟩ = some (.pointer (some ⟨d, 0, none⟩)) := c1
  have e2 : w3.drew.cell? ⟨s, 2, none⟩ = some (.string nm) := c2
  have HDA := hide (HDA'.out w3.drew (HH.out.2.1.below (H3.out.2.1.trans ((belD w3).mono H3.out.2.1.size))))
  clear c0 c1 c2 c3 c5 c6 c7
  go_region_held_law (fun w' => w'.cell? ⟨s, 1, none⟩ = some (.pointer (some ⟨d, 0, none⟩)) ∧ w'.cell? ⟨s, 2, none⟩ = some (.string nm))
    (first | exact ⟨e1, e2⟩ | go_keep)
    (first
      | (go_at_call 32; refine HDA.out.mono ?_; rintro e w4 ⟨rfl, hD4, hV4, hK4⟩; have H4 := hide (And.intro hD4 (And.intro hV4 hK4)); have hk4 : w4.cell? ⟨s, 1, none⟩ = some (.pointer (some ⟨d, 0, none⟩)) ∧ w4.cell? ⟨s, 2, none⟩ = some (.string nm) := ⟨((H3.out.1.below (belD w3)).vf hV4).cells.2.1, ((H3.out.1.below (belD w3)).vf hV4).cells.2.2.1⟩; clear hD4 hV4 hK4))
  have hV4 := H4.out.2.1
  have hU4 := (hV4.kept U _ _ _ H3.out.2.2 (by decide) (by decide) (by decide)).trans H3.out.2.2
  have HS4 := hide ((H3.out.1.below (belD w3)).vf hV4)
  obtain ⟨z0, z1, z2, z3, z4, z5⟩ := cells6 hU4
  have HTK := hide (take_ok w4 B s d base nm P ⟨xb, bb, bc⟩ HS4.out ⟨xb, xc, xv, xp, xs, xn⟩ HH.out.2.2.1 a1 LL cap1 N hN1 HX.out.1 HX.out.2.1 (Nat.le_trans (Nat.le_trans HH.out.2.2.2.2.2 H3.out.2.1.size) hV4.below.size) HX.out.2.2.1 HX.out.2.2.2)
  unfold HN.bv at HTK
  simp only at HTK
  clear hV4 hU4 e1 e2 hk4 HDA
  go_wp2_with fail
  refine HTK.out.mono ?_
  rintro e w5 ⟨rfl, hT5, hP5⟩
  have hD5 := hT5.vx HS4.out H4.out.1
  have hb34 : Below w.heap.size w w3.drew := H3.out.2.1.trans ((belD w3).mono H3.out.2.1.size)
  have hr4 : rowOf w4 s = rowOf w s := by
    obtain ⟨pv0, q0, _⟩ := HH.out.1.blk
    have e1 := hb34.block s (lt_of_block q0)
    exact rowOf_same ((H4.out.2.1.kept s _ _ _ (e1.trans q0) (by decide) (by decide) (by decide)).trans e1)
  have hK5 : KO O w w5 := by
    refine ((KO.below hb34).trans H4.out.2.2 hb34.size (fun i _ h => h)).trans (O' := O) (fun i hi hn => ?_) (Nat.le_trans hb34.size H4.out.2.1.below.size) (fun i _ h => h)
    exact hT5.kept i hi (fun e => hn (e ▸ HZ.out.1)) (fun e => hn (HZ.out.2 i (hr4 ▸ e)))
  have HK5 : Hid (VX w5 Bd d room F' cnt' us' (Zn O w) ∧ KO O w w5) := ⟨hD5.wide (fun i h => h.elim .inl (fun h => .inr (Nat.le_trans hb34.size h))), hK5⟩
  have hsl := HH.out.1.lt
  have H5 : Hid (_ ∧ AF C s w w5) := ⟨hP5, ((AF.of (H3.out.2.1.trans ((belD w3).mono H3.out.2.1.size)) (Nat.le_trans HH.out.2.2.2.1 HH.out.2.2.2.2.2) hsl).trans (AF.vf H4.out.2.1 HH.out.2.2.2.2.1 (H3.out.1.below (belD w3)))).trans (AF.tk hT5 HH.out.2.2.2.1)⟩
  clear hP5 hT5 hD5 hsl HTK hb34 hr4 hK5 z0 z1 z2 z3 z4 z5
  go_wp2
  go_ret
  exact ⟨rfl, H5.out.1, HK5.out.1, H5.out.2, HK5.out.2⟩
set_option maxHeartbeats 2000000 in
theorem ssync_any (w : World) (B Bd s d base : Nat) (nm : ByteArray) (D' : World → Prop) (P : List Pl) (bh : Pl) (c : Int) (hc : c = 3 ∨ c = 0) (hS : SG w B s d nm base P bh)
    (HDS : Calls Tryz.prog 58 #[.pointer (some ⟨d, 0, none⟩), .string nm] w.drew fun e w' => e = .returned (.int .i64 c) ∧ D' w' ∧ V8.VF Bd w.drew w') :
    Calls Tryz.prog 34 #[.pointer (some ⟨s, 0, none⟩)] w fun e w' => e = .returned (.int .i64 0) ∧ D' w' ∧ V8.VF Bd w.drew w' := by
  have HG := hide (sgiven_yes s w hS.cells.1)
  have HU := hide (fun W => unlessNone_ok W c 0 (by rcases hc with h | h <;> subst h <;> simp))
  have HS := hide hS
  have HDS' := hide HDS
  obtain ⟨c0, c1, c2, c3, c5, c6, c7⟩ := hS.cells
  have e1 : w.drew.cell? ⟨s, 1, none⟩ = some (.pointer (some ⟨d, 0, none⟩)) := c1
  have e2 : w.drew.cell? ⟨s, 2, none⟩ = some (.string nm) := c2
  clear HDS hS c0 c1 c2 c3 c5 c6 c7 hc
  go_enter Tryz.func34, Tryz.ntmps34
  go_wp2_with fail
  refine HG.out.mono ?_
  rintro e W ⟨rfl, hW⟩
  obtain rfl := hW.symm
  clear HG hW
  go_upto_region 3 with fail
  go_region_held_law (fun w' => w'.cell? ⟨s, 1, none⟩ = some (.pointer (some ⟨d, 0, none⟩)) ∧ w'.cell? ⟨s, 2, none⟩ = some (.string nm))
    (first | exact ⟨e1, e2⟩ | go_keep)
    (first
      | (go_at_call 58; refine HDS'.out.mono ?_; rintro e w4 ⟨rfl, hD4, hV4⟩; have hk4 : w4.cell? ⟨s, 1, none⟩ = some (.pointer (some ⟨d, 0, none⟩)) ∧ w4.cell? ⟨s, 2, none⟩ = some (.string nm) := ⟨((HS.out.below (belD w)).vf hV4).cells.2.1, ((HS.out.below (belD w)).vf hV4).cells.2.2.1⟩; have H4 := hide (And.intro hD4 hV4); clear hD4 hV4)
      | (go_at_call 57; refine (HU.out _).mono ?_; rintro e Wz ⟨rfl, rfl⟩))
  clear hk4 e1 e2
  go_wp2
  go_ret
  exact ⟨rfl, H4.out.1, H4.out.2⟩
set_option maxHeartbeats 1000000 in
theorem sn_append_x (w : World) (B Bd C s d base room cnt us : Nat) (nm : ByteArray) (F : List UInt8 → Option (List Nat × Nat)) (l : List BT) (K : List Nat) (bt : BT) (O : Nat → Prop) (hOs : O s) (hOr : ∀ j, rowOf w s = some j → O j) (hS : SN w B s d base nm F l K) (hD : VX w Bd d room F cnt us O) (hb : bt.ok) (hbase : bt.h.base = endB base l) (hT : TabF w) (hCB : C ≤ B) (hCd : C ≤ Bd) (hBw : B ≤ w.heap.size) (hl1 : l.length ≤ 1073741824) (hl2 : szs l ≤ 1073741824) (hr : us + bt.sz ≤ room) (hcn : cnt < 256) :
    Calls Tryz.prog 18 #[.pointer (some ⟨s, 0, none⟩), .string bt.s] w fun e w' => e = .returned (.int .i64 0) ∧ (∃ o K' cnt', SN w' B s d base nm (V8.upd F nm.data.toList o) (l ++ [bt]) K' ∧ VX w' Bd d room (V8.upd F nm.data.toList o) cnt' (us + bt.sz) (Zn O w) ∧ ((F nm.data.toList = none ∧ cnt' = cnt + 1) ∨ (F nm.data.toList ≠ none ∧ cnt' = cnt))) ∧ AF C s w w' ∧ KO O w w' := by
  have hpf := plAt_full base l
  have hall : (allB (l ++ [bt])).map UInt8.toNat = (allB l).map UInt8.toNat ++ V8.bytesOf bt.s := by
    rw [allB_append, List.map_append, bytes_nat]
    simp [allB]
  obtain ⟨o, cnt', hF', hcc, HDA⟩ : ∃ o cnt', FileOf (V8.upd F nm.data.toList o) nm (l ++ [bt]) ∧ ((F nm.data.toList = none ∧ cnt' = cnt + 1) ∨ (F nm.data.toList ≠ none ∧ cnt' = cnt)) ∧ ∀ W, VX W Bd d room F cnt us O → Calls Tryz.prog 32 #[.pointer (some ⟨d, 0, none⟩), .string nm, .string bt.s] W fun e w' => e = .returned (.int .i64 0) ∧ VX w' Bd d room (V8.upd F nm.data.toList o) cnt' (us + bt.sz) (Zn O W) ∧ V8.VF Bd W w' ∧ KO O W w' := by
    rcases hS.file with ⟨h0, h1⟩ | ⟨y, hy⟩
    · refine ⟨some (V8.bytesOf bt.s, 0), cnt + 1, ⟨0, ?_⟩, .inl ⟨h1, rfl⟩, fun W hW => ?_⟩
      · rw [hall, h0]
        exact if_pos rfl
      · have := V8.append_nonex W Bd d room cnt us F O hW nm bt.s hS.may h1 hcn (by rw [bt.size]; exact hr)
        rw [bt.size] at this
        exact this
    · refine ⟨some ((allB l).map UInt8.toNat ++ V8.bytesOf bt.s, y), cnt, ⟨y, ?_⟩, .inr ⟨by rw [hy]; simp, rfl⟩, fun W hW => ?_⟩
      · rw [hall]
        exact if_pos rfl
      · have := V8.append_somex W Bd d room cnt us F O hW nm bt.s hS.may _ y hy (by rw [bt.size]; exact hr)
        rw [bt.size] at this
        exact this
  have hKl : ∀ k ∈ K, k ≤ l.length := fun k hk => Nat.le_of_lt (hS.mks.lt k hk)
  have hKn : (K.map (plAt base l)).length ≤ 1073741824 := by
    rw [List.length_map]
    have := hS.mks.len_le
    omega
  have hg := sappend_x w B Bd C s d base room cnt us cnt' (us + bt.sz) nm F _ _ _ bt O hOs hOr hS.sg hD hb hT (by rw [hpf]; exact hbase) hCB hCd hBw
    (by rw [hpf]; exact hl2) (by rw [hpf]; exact hl1) hKn
    (fun p hp => by
      obtain ⟨k, hk, rfl⟩ := List.mem_map.1 hp
      exact (plAt_le hS.ok (hKl k hk) (Nat.le_refl _)).2)
    HDA
  refine hg.mono ?_
  rintro e w' ⟨rfl, ⟨P', hsg, hP'⟩, hvd, haf, hko⟩
  have hlast : plAt base (l ++ [bt]) (l ++ [bt]).length = ⟨bt.h.base + bt.h.cnt, (plAt base l l.length).byt + bt.sz, (plAt base l l.length).cnt + 1⟩ := by
    rw [plAt_full, hpf, endB_snoc, szs_append, szs_one, hbase, List.length_append]
    rfl
  rw [← hlast] at hsg
  have hok : allOK (l ++ [bt]) := fun x hx => by
    rcases List.mem_append.1 hx with h | h
    · exact hS.ok x h
    · rw [List.mem_singleton] at h; subst h; exact hb
  have hch : chain base (l ++ [bt]) := chain_append.2 ⟨hS.ch, hbase, trivial⟩
  refine ⟨rfl, ?_, haf, hko⟩
  rcases hP' with h | ⟨h, hne⟩
  · refine ⟨o, K ++ [l.length], cnt', ⟨?_, hS.may, .inr hF', hch, hok, by rw [List.length_append]; exact hS.mks.add⟩, hvd, hcc⟩
    have e : (K ++ [l.length]).map (plAt base (l ++ [bt])) = P' := by
      rw [List.map_append, map_plAt base l [bt] K hKl, h]
      simp only [List.map_cons, List.map_nil]
      rw [plAt_append base l [bt] l.length (Nat.le_refl _)]
    rw [e]
    exact hsg
  · refine ⟨o, K, cnt', ⟨?_, hS.may, .inr hF', hch, hok, by rw [List.length_append]; exact hS.mks.same (fun e => hne (by rw [e]; rfl))⟩, hvd, hcc⟩
    rw [map_plAt base l [bt] K hKl, ← h]
    exact hsg
theorem sn_sync_x (w : World) (B Bd C s d base room cnt us : Nat) (nm : ByteArray) (F : List UInt8 → Option (List Nat × Nat)) (l : List BT) (K : List Nat) (O : Nat → Prop) (hS : SN w B s d base nm F l K) (hD : VX w Bd d room F cnt us O) (hC : C ≤ Bd) (hCw : C ≤ w.heap.size) :
    Calls Tryz.prog 34 #[.pointer (some ⟨s, 0, none⟩)] w fun e w' => e = .returned (.int .i64 0) ∧ (∃ o, SN w' B s d base nm (V8.upd F nm.data.toList o) l K ∧ VX w' Bd d room (V8.upd F nm.data.toList o) cnt us (Zn O w)) ∧ AF C s w w' ∧ KO O w w' := by
  have hDd := hD.below (belD w)
  rcases hS.file with ⟨h0, h1⟩ | ⟨y, hy⟩
  · refine (ssync_any w B Bd s d base nm (fun w' => VX w' Bd d room F cnt us (Zn O w) ∧ KO O w w') _ _ 3 (.inl rfl) hS.sg ((V8.sync_none w.drew Bd d room cnt us F hDd.vd nm hS.may h1).mono fun e w' ⟨a, b⟩ => ⟨a, by rw [b]; exact ⟨hDd.wide (fun i h => .inl h), KO.below (belD w)⟩, by rw [b]; exact V8.VF.refl _ _⟩)).mono ?_
    rintro e w' ⟨rfl, ⟨hvd, hko⟩, hvf⟩
    have hsg := (hS.sg.below (belD w)).vf hvf
    have hu : V8.upd F nm.data.toList none = F := by
      funext t
      unfold V8.upd
      split
      · rename_i h; rw [h, h1]
      · rfl
    exact ⟨rfl, ⟨none, by rw [hu]; exact hS.keep hsg rfl, by rw [hu]; exact hvd⟩, (AF.of (belD w) hCw hS.sg.lt).trans (AF.vf hvf hC (hS.sg.below (belD w))), hko⟩
  · refine (ssync_any w B Bd s d base nm (fun w' => VX w' Bd d room (V8.upd F nm.data.toList (some ((allB l).map UInt8.toNat, ((allB l).map UInt8.toNat).length))) cnt us (Zn O w) ∧ KO O w w') _ _ 0 (.inr rfl) hS.sg ((V8.sync_x w.drew Bd d room cnt us F O hDd nm hS.may _ y hy).mono fun e w' ⟨a, b, c, d'⟩ => ⟨a, ⟨b, d'⟩, c⟩)).mono ?_
    rintro e w' ⟨rfl, ⟨hvd, hko⟩, hvf⟩
    have hsg := (hS.sg.below (belD w)).vf hvf
    exact ⟨rfl, ⟨_, ⟨hsg, hS.may, .inr ⟨_, if_pos rfl⟩, hS.ch, hS.ok, hS.mks⟩, hvd⟩, (AF.of (belD w) hCw hS.sg.lt).trans (AF.vf hvf hC (hS.sg.below (belD w))), hko⟩
end Go.Proofs.YtcjlcieheepegaaGreatDoor
namespace Go.Proofs.YtcjlcieheepegaaGreatDoor
open Go.RowKit
set_option linter.unusedVariables false
set_option maxRecDepth 20000
set_option maxRecDepth 20000

theorem SN.cut {w : World} {B s d base : Nat} {nm : ByteArray} {F : List UInt8 → Option (List Nat × Nat)} {l : List BT} {K : List Nat} (hm : V8.May nm) (hch : chain base l) (ho : allOK l) (hK : Marks l.length K) (i m y : Nat) (hi : i ≤ l.length) (hm1 : m ≤ K.length) (hsg : SG w B s d nm base ((K.map (plAt base l)).take m) (plAt base l i))
    (hall : ∀ j p, m ≤ j → (K.map (plAt base l))[j]? = some p → (plAt base l i).byt ≤ p.byt) (hlast : m = 0 ∨ ∃ p, (K.map (plAt base l))[m - 1]? = some p ∧ p.byt < (plAt base l i).byt) :
    SN w B s d base nm (V8.upd F nm.data.toList (some (((allB l).map UInt8.toNat).take (plAt base l i).byt, y))) (l.take i) (K.take m) := by
  obtain ⟨h1, h2, h3, h4⟩ := cut_list ho hK i m hi hm1 hall hlast
  refine ⟨by rw [← h1, ← h3]; exact hsg, hm, .inr ⟨y, ?_⟩, ?_, fun b hb => ho b (List.take_subset _ _ hb), h2⟩
  · rw [← h4, List.map_take]
    exact if_pos rfl
  · rw [← List.take_append_drop i l] at hch
    exact (chain_append.1 hch).1
end Go.Proofs.YtcjlcieheepegaaGreatDoor
namespace Go.Proofs.YtcjlcieheepegaaGreatDoor
open Go.RowKit
set_option linter.unusedVariables false
set_option maxRecDepth 20000
set_option maxRecDepth 20000

/-- Two segments share neither block nor row. -/
def Apart (w : World) (s t : Nat) : Prop := s ≠ t ∧ ∀ j, rowOf w t = some j → rowOf w s ≠ some j
theorem Apart.symm {w : World} {s t : Nat} (h : Apart w s t) : Apart w t s := ⟨h.1.symm, fun j e e' => h.2 j e' e⟩
/-- A block that a segment's call leaves as it is. -/
theorem AF.block {C s B d base : Nat} {w w' : World} {nm : ByteArray} {P : List Pl} {bh : Pl} (hf : AF C s w w') (hs : SG w B s d nm base P bh) {i : Nat} {cs : Array Value} {t : TypeId} {m : Nat × Nat} (hi : w.heap[i]? = some (Obj.cells cs t m)) (h1 : t ≠ 79) (h2 : t ≠ 105) (h3 : t ≠ 5) (h4 : t ≠ 68) (h5 : i ≠ s) : w'.heap[i]? = w.heap[i]? := by
  refine hf.kept i cs t m hi h1 h2 h3 h5 (fun hr => ?_)
  obtain ⟨_, cs', e⟩ := hs.rowT hr
  rw [hi] at e
  cases e
  exact h4 rfl
theorem SG.other {C s t B B' d d' base base' : Nat} {w w' : World} {nm nm' : ByteArray} {P P' : List Pl} {bh bh' : Pl} (h : SG w B' t d' nm' base' P' bh') (hf : AF C s w w') (hs : SG w B s d nm base P bh) (ha : Apart w s t) : SG w' B' t d' nm' base' P' bh' ∧ rowOf w' t = rowOf w t := by
  obtain ⟨pv, h1, h2⟩ := h.blk
  have hb : w'.heap[t]? = w.heap[t]? := hf.block hs h1 (by decide) (by decide) (by decide) (by decide) (fun e => ha.1 e.symm)
  have hr : rowOf w' t = rowOf w t := by simp [rowOf, World.cell?, hb]
  refine ⟨⟨⟨pv, hb.trans h1, ?_⟩, h.hB⟩, hr⟩
  refine ⟨h2.1, ?_⟩
  rcases h2.2 with e | ⟨g, cap, cur, e1, e2, e3, e4⟩
  · exact .inl e
  · have hg : rowOf w t = some g := by subst e1; simp [rowOf, World.cell?, h1, Value.ownBlock]
    exact .inr ⟨g, cap, cur, e1, e2, (hf.kept g _ _ _ e3 (by decide) (by decide) (by decide) (fun e => by subst e; obtain ⟨_, h3, _⟩ := hs.blk; rw [h3] at e3; cases e3) (ha.2 g hg)).trans e3, e4⟩
theorem Apart.over {C s t B B' d d' base base' : Nat} {w w' : World} {nm nm' : ByteArray} {P P' : List Pl} {bh bh' : Pl} (h : SG w B' t d' nm' base' P' bh') (hf : AF C s w w') (hs : SG w B s d nm base P bh) (ha : Apart w s t) : Apart w' s t := by
  obtain ⟨_, hr⟩ := h.other hf hs ha
  refine ⟨ha.1, fun j e e' => ?_⟩
  rw [hr] at e
  obtain ⟨hB, cs, hj⟩ := h.rowT e
  rcases hf.row with r | r
  · rw [r] at e'
    exact ha.2 j e e'
  · have := r j e'
    have := lt_of_block hj
    omega
/-- Another segment, whose name is another, over a segment's call. -/
theorem SN.other {C s t B B' d d' base base' : Nat} {w w' : World} {nm nm' : ByteArray} {F : List UInt8 → Option (List Nat × Nat)} {l : List BT} {K : List Nat} {P : List Pl} {bh : Pl} {o : Option (List Nat × Nat)} (h : SN w B' t d' base' nm' F l K) (hf : AF C s w w') (hs : SG w B s d nm base P bh) (ha : Apart w s t) (hn : nm'.data.toList ≠ nm.data.toList) : SN w' B' t d' base' nm' (V8.upd F nm.data.toList o) l K :=
  h.keep (h.sg.other hf hs ha).1 (if_neg hn)
/-- The disk is full. -/
theorem sn_disk (w : World) (B Bd s d base room cnt us : Nat) (nm : ByteArray) (F : List UInt8 → Option (List Nat × Nat)) (l : List BT) (K : List Nat) (bt : BT) (hS : SN w B s d base nm F l K) (hD : V8.VD w Bd d room F cnt us) (hb : bt.ok) (hbase : bt.h.base = endB base l) (hT : TabF w) (hcn : cnt < 256) (hr : room < us + bt.sz) :
    Calls Tryz.prog 18 #[.pointer (some ⟨s, 0, none⟩), .string bt.s] w fun e w' => e = .returned (.int .i64 80) ∧ Below w.heap.size w w' := by
  refine sappend_disk w B Bd s d base room cnt us nm F _ _ bt hS.sg hD hb hT (by rw [plAt_full]; exact hbase) (fun W hW => ?_)
  rcases hS.file with ⟨h0, h1⟩ | ⟨y, hy⟩
  · exact V8.append_disk_none W Bd d room cnt us F hW nm bt.s hS.may h1 hcn (by rw [bt.size]; exact hr)
  · exact V8.append_disk_some W Bd d room cnt us F hW nm bt.s hS.may _ y hy (by rw [bt.size]; exact hr)
end Go.Proofs.YtcjlcieheepegaaGreatDoor
