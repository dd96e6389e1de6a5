/- Layer 11: recipes that came in: one, and a slice of them. -/
/- Layer 11: a segment's state through Append; what the law's own row keeps. -/
/- Layer 11: Sync and Cut of any segment. -/
/- Layer 11: dropFrom, and Cut of any segment. -/
/- Layer 11: Cut of a segment at a batch's base. -/
/- Layer 11: Cut of a segment at its end. -/
/- Layer 11: dropFrom of a segment that lists no place; Cut of an empty segment. -/
/- Layer 11: Cut of a segment that has no batch. -/
import Derived.Test.YtogmfdgpnkbpaaaGreatDoorRows
import Derived.Test.YtogmfdgpnkbpaaaGreatDoorV27
import Derived.ProofKit
import Derived.Deep.Slices
import Derived.ChangeArms
import Derived.Test.YtogmfdgpnkbpaaaGreatDoorV23
namespace Go.Proofs.YtogmfdgpnkbpaaaGreatDoor
open Go.RowKit Go.Deep
set_option linter.unusedVariables false
set_option maxRecDepth 20000
set_option maxRecDepth 20000

theorem Tryz.cellsRcp : Tryz.prog.cellsOf 73 = 5 := by kernel_rfl
theorem Tryz.cellsInt' : Tryz.prog.cellsOf 3 = 1 := by kernel_rfl
theorem Tryz.cellsStr' : Tryz.prog.cellsOf 9 = 1 := by kernel_rfl
def RP.cs (x : RP) : List Value := [.int .i64 x.cnt, .int .i64 x.key, .int .i64 x.prod, .int .i64 x.seq, .string x.val]
theorem add_none' (b off n : Nat) : (⟨b, off, none⟩ : Addr).add n = ⟨b, off + n, none⟩ := by
  unfold Addr.add
  split
  · next h => subst h; rfl
  · rfl
theorem open_rcp {H : Type} {enc : TypeId × Value → H} {W : World} {n : Nat} {cs : List Value} {y : DataW H × List MemPlace} (h : DataW.trod enc Tryz.prog W 0 (fun _ => true) true n 73 cs = some y) :
    ∃ r : RP, cs = r.cs ∧ r.val.size ≤ maxLen := by
  obtain ⟨xs, n', _, rfl, hl, hlen, hf⟩ := DataW.trod_struct Tryz.underlying73 h
  rw [Tryz.cellsRcp] at hl
  match cs, hl, xs, hlen with
  | [c0, c1, c2, c3, c4], _, [y0, y1, y2, y3, y4], _ =>
    have f0 : DataW.trod enc Tryz.prog W 0 (fun _ => true) true n' 3 (([c0, c1, c2, c3, c4].drop 0).take (Tryz.prog.cellsOf 3)) = some y0 := hf 0 _ rfl
    have f1 : DataW.trod enc Tryz.prog W 0 (fun _ => true) true n' 3 (([c0, c1, c2, c3, c4].drop 1).take (Tryz.prog.cellsOf 3)) = some y1 := hf 1 _ rfl
    have f2 : DataW.trod enc Tryz.prog W 0 (fun _ => true) true n' 3 (([c0, c1, c2, c3, c4].drop 2).take (Tryz.prog.cellsOf 3)) = some y2 := hf 2 _ rfl
    have f3 : DataW.trod enc Tryz.prog W 0 (fun _ => true) true n' 3 (([c0, c1, c2, c3, c4].drop 3).take (Tryz.prog.cellsOf 3)) = some y3 := hf 3 _ rfl
    have f4 : DataW.trod enc Tryz.prog W 0 (fun _ => true) true n' 9 (([c0, c1, c2, c3, c4].drop 4).take (Tryz.prog.cellsOf 9)) = some y4 := hf 4 _ rfl
    rw [Tryz.cellsInt'] at f0 f1 f2 f3
    rw [Tryz.cellsStr'] at f4
    obtain ⟨k0, e0, z0, _⟩ := DataW.trod_int Tryz.underlying3 f0
    obtain ⟨k1, e1, z1, _⟩ := DataW.trod_int Tryz.underlying3 f1
    obtain ⟨k2, e2, z2, _⟩ := DataW.trod_int Tryz.underlying3 f2
    obtain ⟨k3, e3, z3, _⟩ := DataW.trod_int Tryz.underlying3 f3
    obtain ⟨s, e4, z4, hs⟩ := DataW.trod_string Tryz.underlying9 f4
    simp at e0 e1 e2 e3 e4
    subst e0 e1 e2 e3 e4
    exact ⟨⟨k0, k1, k2, k3, s⟩, rfl, hs⟩
/-- A slice of recipes. -/
def RIs (w : World) (a : Option Addr) (L : List RP) : Prop :=
  ∀ i r, L[i]? = some r → ∃ b off, a = some ⟨b, off, none⟩ ∧ b < w.heap.size ∧ w.cell? ⟨b, off + i * 5, none⟩ = some (.int .i64 r.cnt) ∧ w.cell? ⟨b, off + i * 5 + 1, none⟩ = some (.int .i64 r.key) ∧ w.cell? ⟨b, off + i * 5 + 2, none⟩ = some (.int .i64 r.prod) ∧ w.cell? ⟨b, off + i * 5 + 3, none⟩ = some (.int .i64 r.seq) ∧ w.cell? ⟨b, off + i * 5 + 4, none⟩ = some (.string r.val)
theorem RIs.below {w w' : World} {a : Option Addr} {L : List RP} {B : Nat} (h : RIs w a L) (hb : Below B w w') (hB : w.heap.size ≤ B) : RIs w' a L := by
  intro i r hr
  obtain ⟨b, off, h1, h2, h3, h4, h5, h6, h7⟩ := h i r hr
  exact ⟨b, off, h1, Nat.lt_of_lt_of_le h2 hb.size, by rw [cell_below hb (by omega)]; exact h3, by rw [cell_below hb (by omega)]; exact h4, by rw [cell_below hb (by omega)]; exact h5, by rw [cell_below hb (by omega)]; exact h6, by rw [cell_below hb (by omega)]; exact h7⟩
end Go.Proofs.YtogmfdgpnkbpaaaGreatDoor
namespace Go.Proofs.YtogmfdgpnkbpaaaGreatDoor
open Go.RowKit
set_option linter.unusedVariables false
set_option maxRecDepth 20000
set_option maxRecDepth 20000

theorem map_plAt (base : Nat) (l m : List BT) (K : List Nat) (h : ∀ k ∈ K, k ≤ l.length) : K.map (plAt base (l ++ m)) = K.map (plAt base l) := by
  apply List.map_congr_left
  intro k hk
  exact plAt_append base l m k (h k hk)
theorem bytes_nat (l : List UInt8) : V8.bytesOf (mk l) = l.map UInt8.toNat := by
  unfold V8.bytesOf
  rw [mk_toList]
/-- A batch more. -/
theorem ss_append (w : World) (B Bd C s d base room cnt : Nat) (nm : ByteArray) (F : List UInt8 → Option (List Nat × Nat)) (l : List BT) (K : List Nat) (bt : BT) (hS : SS w B Bd s d base room cnt nm F l K) (hb : bt.ok) (hbase : bt.h.base = endB base l) (hT : TabF w) (hCB : C ≤ B) (hCd : C ≤ Bd) (hBw : B ≤ w.heap.size) (hr : szs l + bt.sz ≤ room) :
    Calls Tryz.prog 25 #[.pointer (some ⟨s, 0, none⟩), .string bt.s] w fun e w' => e = .returned (.int .i64 0) ∧ (∃ F' K' cnt', SS w' B Bd s d base room cnt' nm F' (l ++ [bt]) K') ∧ AF C s w w' := by
  obtain ⟨hl1, hl2⟩ := hS.len
  have hpf := plAt_full base l
  have hus : szs (l ++ [bt]) = szs l + bt.sz := by rw [szs_append, szs_one]
  have hall : (allB (l ++ [bt])).map UInt8.toNat = (allB l).map UInt8.toNat ++ V8.bytesOf bt.s := by
    rw [allB_append, List.map_append, bytes_nat]
    simp [allB]
  obtain ⟨F', cnt', hF', HDA⟩ : ∃ F' cnt', FileOf F' nm (l ++ [bt]) ∧ ∀ W, V8.VD W Bd d room F cnt (szs l) → Calls Tryz.prog 53 #[.pointer (some ⟨d, 0, none⟩), .string nm, .string bt.s] W fun e w' => e = .returned (.int .i64 0) ∧ V8.VD w' Bd d room F' cnt' (szs (l ++ [bt])) ∧ V8.VF Bd W w' := by
    rcases hS.file with ⟨h0, h1, h2⟩ | ⟨⟨y, hy⟩, h0⟩
    · refine ⟨V8.upd F nm.data.toList (some (V8.bytesOf bt.s, 0)), cnt + 1, ⟨0, ?_⟩, fun W hW => ?_⟩
      · rw [hall, h0]
        exact if_pos rfl
      · have := V8.append_none W Bd d room cnt (szs l) F hW nm bt.s hS.may h1 (by omega) (by rw [bt.size]; exact hr)
        rw [bt.size, ← hus] at this
        exact this
    · refine ⟨V8.upd F nm.data.toList (some ((allB l).map UInt8.toNat ++ V8.bytesOf bt.s, y)), cnt, ⟨y, ?_⟩, fun W hW => ?_⟩
      · rw [hall]
        exact if_pos rfl
      · have := V8.append_some W Bd d room cnt (szs l) F hW nm bt.s hS.may _ y hy (by rw [bt.size]; exact hr)
        rw [bt.size, ← hus] at this
        exact this
  have hKl : ∀ k ∈ K, k ≤ l.length := fun k hk => Nat.le_of_lt (hS.mks.lt k hk)
  have hKn : (K.map (plAt base l)).length ≤ 1073741824 := by
    rw [List.length_map]
    have : K.length ≤ l.length := by
      rcases Nat.lt_or_ge l.length K.length with hlt | hge
      · exfalso
        have hpw : ∀ i (hi : i < K.length), i ≤ K[i] := by
          intro i
          induction i with
          | zero => intro _; exact Nat.zero_le _
          | succ i ih =>
            intro hi
            have a := ih (by omega)
            have b := List.pairwise_iff_getElem.1 hS.mks.up i (i + 1) (by omega) hi (by omega)
            omega
        have a := hpw l.length hlt
        have b := hS.mks.lt _ (List.getElem_mem hlt)
        omega
      · exact hge
    omega
  have hg := sappend_gen w B Bd C s d base room cnt (szs l) cnt' (szs (l ++ [bt])) nm F F' _ _ bt hS.sg hS.vd hb hT (by rw [hpf]; exact hbase) hCB hCd hBw
    (by rw [hpf]; show szs l ≤ _; omega) (by rw [hpf]; show l.length ≤ _; omega) hKn
    (fun p hp => by
      obtain ⟨k, hk, rfl⟩ := List.mem_map.1 hp
      exact (plAt_le hS.ok (hKl k hk) (Nat.le_refl _)).2)
    HDA
  refine hg.mono ?_
  rintro e w' ⟨rfl, ⟨P', hsg, hP'⟩, hvd, haf⟩
  have hlast : plAt base (l ++ [bt]) (l ++ [bt]).length = ⟨bt.h.base + bt.h.cnt, (plAt base l l.length).byt + bt.sz, (plAt base l l.length).cnt + 1⟩ := by
    rw [plAt_full, hpf, endB_snoc, hus, hbase, List.length_append]
    rfl
  rw [← hlast] at hsg
  have hok : allOK (l ++ [bt]) := fun x hx => by
    rcases List.mem_append.1 hx with h | h
    · exact hS.ok x h
    · rw [List.mem_singleton] at h; subst h; exact hb
  have hch : chain base (l ++ [bt]) := chain_append.2 ⟨hS.ch, hbase, trivial⟩
  refine ⟨rfl, ?_, haf⟩
  rcases hP' with h | ⟨h, hne⟩
  · refine ⟨F', K ++ [l.length], cnt', ⟨?_, hvd, hS.may, .inr ⟨hF', by simp⟩, hch, hok, by rw [List.length_append]; exact hS.mks.add, hS.hb⟩⟩
    have e : (K ++ [l.length]).map (plAt base (l ++ [bt])) = P' := by
      rw [List.map_append, map_plAt base l [bt] K hKl, h]
      simp only [List.map_cons, List.map_nil]
      rw [plAt_append base l [bt] l.length (Nat.le_refl _)]
    rw [e]
    exact hsg
  · refine ⟨F', K, cnt', ⟨?_, hvd, hS.may, .inr ⟨hF', by simp⟩, hch, hok, by rw [List.length_append]; exact hS.mks.same (fun e => hne (by rw [e]; rfl)), hS.hb⟩⟩
    rw [map_plAt base l [bt] K hKl, ← h]
    exact hsg
/-- The disk is full. -/
theorem ss_disk (w : World) (B Bd s d base room cnt : Nat) (nm : ByteArray) (F : List UInt8 → Option (List Nat × Nat)) (l : List BT) (K : List Nat) (bt : BT) (hS : SS w B Bd s d base room cnt nm F l K) (hb : bt.ok) (hbase : bt.h.base = endB base l) (hT : TabF w) (hr : room < szs l + bt.sz) :
    Calls Tryz.prog 25 #[.pointer (some ⟨s, 0, none⟩), .string bt.s] w fun e w' => e = .returned (.int .i64 80) ∧ Below w.heap.size w w' := by
  refine sappend_disk w B Bd s d base room cnt (szs l) nm F _ _ bt hS.sg hS.vd hb hT (by rw [plAt_full]; exact hbase) (fun W hW => ?_)
  rcases hS.file with ⟨h0, h1, h2⟩ | ⟨⟨y, hy⟩, h0⟩
  · exact V8.append_disk_none W Bd d room cnt (szs l) F hW nm bt.s hS.may h1 (by omega) (by rw [bt.size]; exact hr)
  · exact V8.append_disk_some W Bd d room cnt (szs l) F hW nm bt.s hS.may _ y hy (by rw [bt.size]; exact hr)
theorem OwnS.af {w w' : World} {C Bh B s d base : Nat} {nm : ByteArray} {P : List Pl} {bh : Pl} {v : Value} {l : List BT} (h : OwnS w Bh v l) (hf : AF C s w w') (hS : SG w B s d nm base P bh) : OwnS w' Bh v l := by
  refine rowKeep h fun g cs e => hf.kept g _ _ _ e (by decide) (by decide) (by decide) ?_ (fun hr => ?_)
  · rintro rfl
    obtain ⟨pv, h1, _⟩ := hS.blk
    rw [h1] at e
    cases e
  · obtain ⟨_, cs', e'⟩ := hS.rowT hr
    rw [e] at e'
    cases e'
theorem strInfo : (Tryz.prog.info? 9).map (fun i => (i.zero, i.size, i.bytes)) = some (some (.string ⟨#[]⟩), 1, 16) := by kernel_rfl
theorem news1 (W : World) (a : Value) (t : TypeId) : ∀ j u, [a][j]? = some u → (W.alloc (.cells #[a] t)).cell? ((⟨W.heap.size, 0, none⟩ : Addr).add j) = some u :=
  World.news_of_block (heap_alloc_new W _)
theorem one1 (a : ByteArray) : ∀ u ∈ [Value.string a], u.oneCell' = true := by
  intro u hu; simp at hu; subst hu; rfl
/-- A segment's state where rows of the law's own turn. -/
theorem SS.grown {w w' : World} {B Bd s d base room cnt Bh : Nat} {nm : ByteArray} {F : List UInt8 → Option (List Nat × Nat)} {l : List BT} {K : List Nat} {v : Value} {m : List BT} (h : SS w B Bd s d base room cnt nm F l K) (ho : OwnS w Bh v m) (hg : w.grownBy w' v.ownBlock) : SS w' B Bd s d base room cnt nm F l K := by
  have hk : ∀ (i : Nat) (o : Obj), w.heap[i]? = some o → (∀ cs mk, o ≠ .cells cs 9 mk) → w'.heap[i]? = w.heap[i]? := fun i o hi ht => by
    have hil : i < w.heap.size := by
      rcases Nat.lt_or_ge i w.heap.size with h | h
      · exact h
      · rw [Array.getElem?_eq_none h] at hi; cases hi
    refine hg.block i hil (fun e => ?_)
    obtain ⟨_, cs, e'⟩ := rowBlk ho e.symm
    rw [hi] at e'
    cases e'
    exact ht _ _ rfl
  refine ⟨h.sg.keep fun i cs t mk hi ht => hk i _ hi (fun cs' mk' e => ?_), h.vd.typed (fun i cs t mk hi ht => hk i _ hi (fun cs' mk' e => ?_)) (fun i es c hi => hk i _ hi (fun cs' mk' e => by cases e)), h.may, h.file, h.ch, h.ok, h.mks, h.hb⟩
  · cases e
    rcases ht with h | h <;> revert h <;> decide
  · cases e
    rcases ht with h | h | h <;> revert h <;> decide
end Go.Proofs.YtogmfdgpnkbpaaaGreatDoor
namespace Go.Proofs.YtogmfdgpnkbpaaaGreatDoor
open Go.RowKit
set_option linter.unusedVariables false
set_option maxRecDepth 20000
set_option maxRecDepth 20000

theorem unlessNone_ok (w : World) (e : Int) (r : Int) (h : (e = 3 ∧ r = 0) ∨ (e ≠ 3 ∧ r = e)) : Calls Tryz.prog 55 #[.int .i64 e] w fun x w' => x = .returned (.int .i64 r) ∧ w' = w := by
  rcases h with ⟨rfl, rfl⟩ | ⟨h, rfl⟩
  · go_enter Tryz.func55, Tryz.ntmps55
    go_wp2
    go_ret
    exact ⟨rfl, rfl⟩
  · have h' : (r == 3) = false := by simp [h]
    clear h
    go_enter Tryz.func55, Tryz.ntmps55
    go_wp2
    go_ret
    exact ⟨rfl, rfl⟩
set_option maxHeartbeats 2000000 in
theorem ssync_gen (w : World) (B Bd s d base room cnt us cnt' us' : Nat) (nm : ByteArray) (F F' : List UInt8 → Option (List Nat × Nat)) (P : List Pl) (bh : Pl) (c : Int) (hc : c = 3 ∨ c = 0) (hS : SG w B s d nm base P bh) (hD : V8.VD w Bd d room F cnt us)
    (HDS : ∀ W, V8.VD W Bd d room F cnt us → Calls Tryz.prog 56 #[.pointer (some ⟨d, 0, none⟩), .string nm] W fun e w' => e = .returned (.int .i64 c) ∧ V8.VD w' Bd d room F' cnt' us' ∧ V8.VF Bd W w') :
    Calls Tryz.prog 27 #[.pointer (some ⟨s, 0, none⟩)] w fun e w' => e = .returned (.int .i64 0) ∧ V8.VD w' Bd d room F' cnt' us' ∧ V8.VF Bd w.drew w' := by
  have HG := hide (sgiven_yes s w hS.cells.1)
  have HU := hide (fun W => unlessNone_ok W c 0 (by rcases hc with h | h <;> subst h <;> simp))
  have HS := hide hS
  have hD' := hD.below (belD w)
  have HDS' := hide (HDS w.drew hD')
  obtain ⟨c0, c1, c2, c3, c5, c6, c7⟩ := hS.cells
  have e1 : w.drew.cell? ⟨s, 1, none⟩ = some (.pointer (some ⟨d, 0, none⟩)) := c1
  have e2 : w.drew.cell? ⟨s, 2, none⟩ = some (.string nm) := c2
  clear HDS hD hD' hS c0 c1 c2 c3 c5 c6 c7 hc
  go_enter Tryz.func27, Tryz.ntmps27
  go_wp2_with fail
  refine HG.out.mono ?_
  rintro e W ⟨rfl, hW⟩
  obtain rfl := hW.symm
  clear HG hW
  go_upto_region 3 with fail
  go_region_held_law (fun w' => w'.cell? ⟨s, 1, none⟩ = some (.pointer (some ⟨d, 0, none⟩)) ∧ w'.cell? ⟨s, 2, none⟩ = some (.string nm))
    (first | exact ⟨e1, e2⟩ | go_keep)
    (first
      | (go_at_call 56; refine HDS'.out.mono ?_; rintro e w4 ⟨rfl, hD4, hV4⟩; have hk4 : w4.cell? ⟨s, 1, none⟩ = some (.pointer (some ⟨d, 0, none⟩)) ∧ w4.cell? ⟨s, 2, none⟩ = some (.string nm) := ⟨((HS.out.below (belD w)).vf hV4).cells.2.1, ((HS.out.below (belD w)).vf hV4).cells.2.2.1⟩; have H4 := hide (And.intro hD4 hV4); clear hD4 hV4)
      | (go_at_call 55; refine (HU.out _).mono ?_; rintro e Wz ⟨rfl, rfl⟩))
  clear hk4 e1 e2
  go_wp2
  go_ret
  exact ⟨rfl, H4.out.1, H4.out.2⟩
/-- Sync. -/
theorem ss_sync (w : World) (B Bd C s d base room cnt : Nat) (nm : ByteArray) (F : List UInt8 → Option (List Nat × Nat)) (l : List BT) (K : List Nat) (hS : SS w B Bd s d base room cnt nm F l K) (hC : C ≤ Bd) (hCw : C ≤ w.heap.size) :
    Calls Tryz.prog 27 #[.pointer (some ⟨s, 0, none⟩)] w fun e w' => e = .returned (.int .i64 0) ∧ (∃ F', SS w' B Bd s d base room cnt nm F' l K) ∧ AF C s w w' := by
  rcases hS.file with ⟨h0, h1, h2⟩ | ⟨⟨y, hy⟩, h0⟩
  · refine (ssync_gen w B Bd s d base room cnt (szs l) cnt (szs l) nm F F _ _ 3 (.inl rfl) hS.sg hS.vd (fun W hW => (V8.sync_none W Bd d room cnt (szs l) F hW nm hS.may h1).mono fun e w' ⟨a, b⟩ => ⟨a, by rw [b]; exact hW, by rw [b]; exact V8.VF.refl _ _⟩)).mono ?_
    rintro e w' ⟨rfl, hvd, hvf⟩
    have hsg := (hS.sg.below (belD w)).vf hvf
    exact ⟨rfl, ⟨F, hsg, hvd, hS.may, hS.file, hS.ch, hS.ok, hS.mks, hS.hb⟩, (AF.of (belD w) hCw hS.sg.lt).trans (AF.vf hvf hC (hS.sg.below (belD w)))⟩
  · refine (ssync_gen w B Bd s d base room cnt (szs l) cnt (szs l) nm F _ _ _ 0 (.inr rfl) hS.sg hS.vd (fun W hW => V8.sync_some W Bd d room cnt (szs l) F hW nm hS.may _ y hy)).mono ?_
    rintro e w' ⟨rfl, hvd, hvf⟩
    have hsg := (hS.sg.below (belD w)).vf hvf
    exact ⟨rfl, ⟨_, hsg, hvd, hS.may, .inr ⟨⟨_, if_pos rfl⟩, h0⟩, hS.ch, hS.ok, hS.mks, hS.hb⟩, (AF.of (belD w) hCw hS.sg.lt).trans (AF.vf hvf hC (hS.sg.below (belD w)))⟩
end Go.Proofs.YtogmfdgpnkbpaaaGreatDoor
namespace Go.Proofs.YtogmfdgpnkbpaaaGreatDoor
open Go.RowKit
set_option linter.unusedVariables false
set_option maxRecDepth 20000
set_option maxRecDepth 20000

theorem row_shrink {w : World} {B g cap n : Nat} {P : List Pl} (hrow : w.ownsRow B 82 3 (.slice (some ⟨g, 0, none⟩) n cap) n (plc P)) (hn : P.length = n) (m : Nat) (hm : m ≤ n) :
    w.ownsRow B 82 3 (.slice (some ⟨g, 0, none⟩) m cap) m (plc (P.take m)) := by
  subst hn
  have e : plc P = plc (P.take m) ++ plc (P.drop m) := by rw [← plc_append, List.take_append_drop]
  have hl : (plc (P.take m)).length = m * 3 := by rw [plc_length, List.length_take, Nat.min_eq_left hm]
  refine ⟨by rw [hl], ?_⟩
  rcases hrow.2 with ⟨h, _⟩ | ⟨g', cap', cur, h, h1, h2, h3, h4, h5, h6⟩
  · cases h
  · cases h
    refine .inr ⟨g, cap, cur, rfl, h1, h2, by omega, h4, h5, ?_⟩
    have := congrArg (List.take (m * 3)) h6
    rw [List.take_take, Nat.min_eq_left (by omega), e] at this
    rw [this, ← hl, List.take_left]
theorem TK.same4 {B s g m n cap : Nat} {w : World} {cs : Array Value} {t : TypeId} {xs : List Value} (hs : w.heap[s]? = some (.cells cs t (0, 0))) (hc : cs[4]? = some (.slice (some ⟨g, 0, none⟩) n cap)) (hrow : w.ownsRow B 82 3 (.slice (some ⟨g, 0, none⟩) n cap) n xs) (hgs : g ≠ s) (hBw : B ≤ w.heap.size) (hB : B ≤ s) : TK B s w (w.setCell ⟨s, 4, none⟩ (.slice (some ⟨g, 0, none⟩) m cap)) :=
  TK.push hs hc ⟨rfl, rfl, rfl, Nat.le_refl _, fun _ _ _ => rfl⟩ (fun e => hgs (by simpa [Value.ownBlock] using e)) (fun k hk => (rowBlk hrow hk).1) hBw hB (.inl rfl)
/-- What dropFrom's loop keeps: the first so many places. -/
structure DL (w wr : World) (B s d base : Nat) (nm : ByteArray) (P : List Pl) (bh : Pl) (g cap m X : Nat) (at_ : Pl) : Prop where
  blk : wr.heap[s]? = some (.cells #[.pointer (some ⟨s, 0, none⟩), .pointer (some ⟨d, 0, none⟩), .string nm, .int .i64 (base : Nat), .slice (some ⟨g, 0, none⟩) m cap, .int .i64 (bh.off : Nat), .int .i64 (bh.byt : Nat), .int .i64 (bh.cnt : Nat)] 96 (0, 0))
  row : wr.ownsRow B 82 3 (.slice (some ⟨g, 0, none⟩) m cap) m (plc (P.take m))
  x : wr.heap[X]? = some (.cells #[.int .i64 (at_.off : Nat), .int .i64 (at_.byt : Nat), .int .i64 (at_.cnt : Nat)] 82 (0, 0))
  tk : TK B s w wr
  gX : g ≠ X
  all : ∀ i p, m ≤ i → P[i]? = some p → at_.byt ≤ p.byt
/-- What dropFrom leaves. -/
def DropEnd (w : World) (B s d base : Nat) (nm : ByteArray) (P : List Pl) (at_ : Pl) (e : Ending) (w' : World) : Prop :=
  e = .returned (.tuple #[]) ∧ TK B s w w' ∧ ∃ m, m ≤ P.length ∧ SG w' B s d nm base (P.take m) at_ ∧ (∀ i p, m ≤ i → P[i]? = some p → at_.byt ≤ p.byt) ∧ (m = 0 ∨ ∃ p, P[m - 1]? = some p ∧ p.byt < at_.byt)
set_option maxHeartbeats 4000000 in
theorem drop_ok (w : World) (B s d base : Nat) (nm : ByteArray) (P : List Pl) (bh at_ : Pl) (h : SG w B s d nm base P bh) (hP : P ≠ []) (hPl : P.length ≤ 1073741824) (hBw : B ≤ w.heap.size) :
    Calls Tryz.prog 58 #[.pointer (some ⟨s, 0, none⟩), at_.v] w (DropEnd w B s d base nm P at_) := by
  have hslt := h.lt
  have hsB := h.hB
  obtain ⟨pv, hblk, hrow⟩ := h.blk
  obtain ⟨pa, cap, rfl⟩ := rowForm hrow
  have hpos : 0 < P.length := List.length_pos_iff.2 hP
  obtain ⟨g, rfl, hcap⟩ : ∃ g, pa = some ⟨g, 0, none⟩ ∧ P.length ≤ cap := by
    rcases hrow.2 with ⟨e, h0⟩ | ⟨g, cap', cur, e, _, _, h3, _⟩
    · exact absurd h0 (by omega)
    · cases e; exact ⟨g, rfl, by omega⟩
  obtain ⟨_, gcs, hg⟩ := rowBlk hrow rfl
  obtain ⟨bo, bb, bc⟩ := bh
  obtain ⟨ao, ab, ac⟩ := at_
  unfold DropEnd
  simp only [Pl.v] at hblk ⊢
  have hba := below_a w (.cells #[.int .i64 (ao : Nat), .int .i64 (ab : Nat), .int .i64 (ac : Nat)] 82)
  have HD : Hid (DL w (w.alloc (.cells #[.int .i64 (ao : Nat), .int .i64 (ab : Nat), .int .i64 (ac : Nat)] 82)) B s d base nm P ⟨bo, bb, bc⟩ g cap P.length w.heap.size ⟨ao, ab, ac⟩) :=
    ⟨(hba.block s (lt_of_block hblk)).trans hblk, by rw [List.take_length]; exact owns_below hrow hba, heap_alloc_new _ _, TK.of hba hBw hslt, Nat.ne_of_lt (lt_of_block hg), fun i p hi hp => by rw [List.getElem?_eq_none hi] at hp; cases hp⟩
  obtain ⟨X, hX⟩ : ∃ X, w.heap.size = X := ⟨_, rfl⟩
  rw [hX] at HD
  obtain ⟨N, hN⟩ : ∃ N, P.length = N := ⟨_, rfl⟩
  rw [hN] at HD hPl hpos hcap
  have HNN := hide hN
  have HB := hide hsB
  clear hblk hrow hba hBw hslt h hP hg hN hsB
  go_enter Tryz.func58, Tryz.ntmps58
  go_upto_region 1 with fail
  try rw [hX]
  generalize (w.alloc (.cells #[.int .i64 (ao : Nat), .int .i64 (ab : Nat), .int .i64 (ac : Nat)] 82)) = w1 at HD
  clear hX
  have c4 : w1.cell? ⟨s, 4, none⟩ = some (.slice (some ⟨g, 0, none⟩) N cap) := by simp [World.cell?, HD.out.blk]
  obtain ⟨q0, hq0⟩ : ∃ q, N - 1 = q := ⟨_, rfl⟩
  have hq0i : (N : Int) - 1 = (q0 : Int) := by omega
  have HQ0 : Hid (N = q0 + 1) := by show N = _; omega
  clear hq0
  go_upto_region 2 with fail
  clear hq0i c4
  go_wp2
  go_loopw [4] (fun v wr => ∃ m : Nat, ((m = 0 ∧ v = .int .i64 (-1)) ∨ ∃ q : Nat, m = q + 1 ∧ v = .int .i64 (q : Nat)) ∧ m ≤ N ∧ DL w wr B s d base nm P ⟨bo, bb, bc⟩ g cap m X ⟨ao, ab, ac⟩) (fun v _ => (intOf v + 1).toNat)
  case atStart => exact ⟨N, .inr ⟨q0, HQ0.out, rfl⟩, Nat.le_refl _, HD.out⟩
  case round =>
    obtain ⟨m, hv, hmN, hdl⟩ := hrel
    have HL := hide hdl
    clear hdl HD
    have hgs : g ≠ s := by
      obtain ⟨_, cs, e⟩ := rowBlk HL.out.row rfl
      rintro rfl
      have h2 := HL.out.blk
      rw [e] at h2
      cases h2
    have hXs : X ≠ s := by
      rintro rfl
      have h2 := HL.out.blk
      rw [HL.out.x] at h2
      cases h2
    have HGS := hide (And.intro hgs hXs)
    obtain ⟨x0, x1, x2⟩ := cellsP3 HL.out.x
    have d4 : wr.cell? ⟨s, 4, none⟩ = some (.slice (some ⟨g, 0, none⟩) m cap) := by simp [World.cell?, HL.out.blk]
    have d5 : wr.cell? ⟨s, 5, none⟩ = some (.int .i64 (bo : Nat)) := by simp [World.cell?, HL.out.blk]
    have d6 : wr.cell? ⟨s, 6, none⟩ = some (.int .i64 (bb : Nat)) := by simp [World.cell?, HL.out.blk]
    have d7 : wr.cell? ⟨s, 7, none⟩ = some (.int .i64 (bc : Nat)) := by simp [World.cell?, HL.out.blk]
    have fs := frozen0 HL.out.blk
    have HFIN : Hid (∀ (v : World), v.heap = wr.heap → v.os = wr.os → v.output = wr.output → True) := fun _ _ _ _ => trivial
    have HEND : Hid ((m = 0 ∨ ∃ p, P[m - 1]? = some p ∧ p.byt < ab) → TK B s w (((wr.drew.setCell ⟨s, 5, none⟩ (.int .i64 (ao : Nat))).setCell ⟨s, 6, none⟩ (.int .i64 (ab : Nat))).setCell ⟨s, 7, none⟩ (.int .i64 (ac : Nat))) ∧ ∃ m, m ≤ P.length ∧ SG (((wr.drew.setCell ⟨s, 5, none⟩ (.int .i64 (ao : Nat))).setCell ⟨s, 6, none⟩ (.int .i64 (ab : Nat))).setCell ⟨s, 7, none⟩ (.int .i64 (ac : Nat))) B s d nm base (P.take m) ⟨ao, ab, ac⟩ ∧ (∀ i p, m ≤ i → P[i]? = some p → ab ≤ p.byt) ∧ (m = 0 ∨ ∃ p, P[m - 1]? = some p ∧ p.byt < ab)) := fun hm => by
      have hb : wr.drew.heap[s]? = _ := HL.out.blk
      have s5 := block_set (i := 5) (u := .int .i64 (ao : Nat)) hb
      have s6 := block_set (i := 6) (u := .int .i64 (ab : Nat)) s5
      have s7 := block_set (i := 7) (u := .int .i64 (ac : Nat)) s6
      have hBw : B ≤ wr.heap.size := Nat.le_trans HB.out (Nat.le_of_lt (lt_of_block HL.out.blk))
      have hlm : (P.take m).length = m := by rw [List.length_take, HNN.out]; omega
      refine ⟨(((HL.out.tk.trans (TK.of (belD wr) hBw (lt_of_block HL.out.blk))).trans (TK.set _ HB.out hb (by decide))).trans (TK.set _ HB.out s5 (by decide))).trans (TK.set _ HB.out s6 (by decide)), m, by rw [HNN.out]; exact hmN, ⟨⟨.slice (some ⟨g, 0, none⟩) m cap, ?_, ?_⟩, HB.out⟩, HL.out.all, hm⟩
      · exact s7
      · rw [hlm]
        have hr : wr.drew.ownsRow B 82 3 (.slice (some ⟨g, 0, none⟩) m cap) m (plc (P.take m)) := owns_below HL.out.row (belD wr)
        refine rowKeep hr fun g' cs e => ?_
        have hg : g' ≠ s := by rintro rfl; rw [hb] at e; cases e
        rw [Below.heap_setCell _ _ _ _ (by simpa using hg), Below.heap_setCell _ _ _ _ (by simpa using hg), Below.heap_setCell _ _ _ _ (by simpa using hg)]
    clear HFIN hgs hXs
    rcases hv with ⟨hm0, rfl⟩ | ⟨q, hmq, rfl⟩
    · have HE := hide (HEND.out (.inl hm0))
      clear HEND hm0 hmN
      go_upto_region 2 with fail
      go_region
      go_wp2
      go_end0
      exact ⟨rfl, HE.out.1, HE.out.2⟩
    · obtain ⟨p, hp⟩ : ∃ p, P[q]? = some p := ⟨_, List.getElem?_eq_getElem (by rw [HNN.out]; omega)⟩
      have hpt : (P.take m)[q]? = some p := by rw [List.getElem?_take, if_pos (by omega)]; exact hp
      have hpc := (plc_cells HL.out.row q p hpt).2.1
      obtain ⟨po, pb, pc⟩ := p
      simp only at hpc
      have hqm : (q : Int) < (m : Int) := by omega
      have hqm2 : q < m := by omega
      have hq0 : ¬ (q : Int) < 0 := by omega
      have hq0' : (0 : Int) ≤ (q : Int) := by omega
      have hqc : (q : Int) ≤ (cap : Int) := by omega
      have hqc2 : q ≤ cap := by omega
      have hqb : q ≤ 1073741824 := by omega
      have HP := hide (And.intro hp (And.intro hmq hmN))
      by_cases hge : ab ≤ pb
      · have hgei : (ab : Int) ≤ (pb : Int) := by omega
        have HGE := hide hge
        clear HEND hp hpt hmq hmN hge
        go_upto_region 2 with fail
        go_region
        go_upto_region 4 with fail
        go_wp2
        have hb : wr.drew.heap[s]? = _ := HL.out.blk
        have hr : wr.drew.ownsRow B 82 3 (.slice (some ⟨g, 0, none⟩) m cap) m (plc (P.take m)) := owns_below HL.out.row (belD wr)
        have hBw : B ≤ wr.drew.heap.size := Nat.le_trans HB.out (Nat.le_of_lt (lt_of_block HL.out.blk))
        have hlm : (P.take m).length = m := by rw [List.length_take, HNN.out]; have := HP.out.2.2; omega
        refine ⟨⟨q, ?_, by have := HP.out.2.1; have := HP.out.2.2; omega, ?_⟩, ?_⟩
        · rcases Nat.eq_zero_or_pos q with h | h
          · subst h; exact .inl ⟨rfl, rfl⟩
          · exact .inr ⟨q - 1, by omega, by congr 1; omega⟩
        · refine ⟨block_set (i := 4) (u := .slice (some ⟨g, 0, none⟩) q cap) hb, ?_, (Below.heap_setCell _ _ _ _ (by simpa using HGS.out.2)).trans HL.out.x, (HL.out.tk.trans (TK.of (belD wr) hBw (lt_of_block HL.out.blk))).trans (TK.same4 hb rfl hr HGS.out.1 hBw HB.out), HL.out.gX, fun i p hi hp => ?_⟩
          · have h1 := row_shrink hr hlm q (by omega)
            rw [List.take_take, Nat.min_eq_left (by omega)] at h1
            refine rowKeep h1 fun g' cs e => ?_
            have hg : g' ≠ s := by rintro rfl; rw [hb] at e; cases e
            exact Below.heap_setCell _ _ _ _ (by simpa using hg)
          · rcases Nat.lt_or_eq_of_le hi with h | h
            · exact HL.out.all i p (by have := HP.out.2.1; omega) hp
            · subst h
              rw [HP.out.1] at hp
              cases hp
              exact HGE.out
        · simp [intOf]
      · have hgei : ¬ (ab : Int) ≤ (pb : Int) := by omega
        have HE := hide (HEND.out (.inr ⟨_, by rw [hmq]; exact hp, by show pb < ab; omega⟩))
        clear HEND hp hpt hmq hmN hge
        go_upto_region 2 with fail
        go_region
        go_wp2
        go_end0
        exact ⟨rfl, HE.out.1, HE.out.2⟩
end Go.Proofs.YtogmfdgpnkbpaaaGreatDoor
namespace Go.Proofs.YtogmfdgpnkbpaaaGreatDoor
open Go.RowKit
set_option linter.unusedVariables false
set_option maxRecDepth 20000
set_option maxRecDepth 20000

set_option maxHeartbeats 8000000 in
theorem scut_mid (w : World) (B Bd C s d base room cnt us : Nat) (nm : ByteArray) (F : List UInt8 → Option (List Nat × Nat)) (l : List BT) (K : List Nat) (y : Nat) (hS : SG w B s d nm base (K.map (plAt base l)) (plAt base l l.length)) (hD : V8.VD w Bd d room F cnt us) (hm : V8.May nm) (hy : F nm.data.toList = some ((allB l).map UInt8.toNat, y)) (hc : chain base l) (ho : allOK l) (hK : Marks l.length K) (hT : TabF w) (i : Nat) (hi : i < l.length) (hCB : C ≤ B) (hCd : C ≤ Bd) (hBw : B ≤ w.heap.size) (hKl : K.length ≤ 1073741824) :
    Calls Tryz.prog 28 #[.pointer (some ⟨s, 0, none⟩), .int .i64 ((plAt base l i).off : Nat)] w fun e w' => e = .returned (.int .i64 0) ∧ (∃ m, m ≤ (K.map (plAt base l)).length ∧ SG w' B s d nm base ((K.map (plAt base l)).take m) (plAt base l i) ∧ (∀ j p, m ≤ j → (K.map (plAt base l))[j]? = some p → (plAt base l i).byt ≤ p.byt) ∧ (m = 0 ∨ ∃ p, (K.map (plAt base l))[m - 1]? = some p ∧ p.byt < (plAt base l i).byt)) ∧ V8.VD w' Bd d room (V8.upd F nm.data.toList (some (((allB l).map UInt8.toNat).take (plAt base l i).byt, (plAt base l i).byt))) cnt (us - (szs l - (plAt base l i).byt)) ∧ AF C s w w' := by
  have HG := hide (sgiven_yes s w hS.cells.1)
  have hlt := plAt_lt (base := base) ho hi (Nat.le_refl _)
  have h0 := plAt_le (base := base) ho (Nat.zero_le i) (Nat.le_of_lt hi)
  have hsu := plAt_lt (base := base) ho (show i < i + 1 by omega) (show i + 1 ≤ l.length from hi)
  rw [plAt_zero] at h0
  simp only at h0
  have hpf := plAt_full base l
  have hKn : K.map (plAt base l) ≠ [] := by
    intro e
    have := hK.first (by omega)
    rw [List.map_eq_nil_iff] at e
    rw [e] at this
    cases this
  have HU := hide (fun W => unlessNone_ok W 0 0 (.inr ⟨by decide, rfl⟩))
  have HH := hide (And.intro hS (And.intro hD (And.intro hm (And.intro hy (And.intro hc (And.intro ho (And.intro hK (And.intro hT (And.intro hCB (And.intro hCd (And.intro hBw (And.intro hKn (And.intro (show (K.map (plAt base l)).length ≤ 1073741824 by rw [List.length_map]; exact hKl) hi)))))))))))))
  obtain ⟨P, hP⟩ : ∃ P, K.map (plAt base l) = P := ⟨_, rfl⟩
  obtain ⟨⟨eo, eb, ec⟩, he⟩ : ∃ p, plAt base l l.length = p := ⟨_, rfl⟩
  obtain ⟨⟨ao, ab, ac⟩, ha⟩ : ∃ p, plAt base l i = p := ⟨_, rfl⟩
  have HPE := hide (And.intro hP (And.intro he ha))
  rw [he, ha] at hlt
  rw [ha] at h0 hsu ⊢
  rw [hP]
  simp only at hlt h0 hsu ⊢
  have hse : szs l = eb := by rw [he] at hpf; exact (congrArg Pl.byt hpf).symm
  have heo : endB base l = eo := by rw [he] at hpf; exact (congrArg Pl.off hpf).symm
  have hfl : ((allB l).map UInt8.toNat).length = eb := by rw [List.length_map]; exact hse
  have HFi := hide (fun W (hb : Below w.heap.size w W) => find_ok W B Bd s d base room cnt us nm F l K (hS.below hb) (hD.below hb) hm ⟨y, hy⟩ hc ho hK (hT.new hb) ao h0.1 (by rw [heo]; exact hlt.1))
  have HCt := hide (fun W (hW : V8.VD W Bd d room F cnt us) => V8.cut_some W Bd d room cnt us F hW nm hm _ y hy ab (by rw [hfl]; omega))
  rw [hfl] at HCt
  rw [hse]
  have HSU := hide (And.intro hsu (And.intro hlt h0))
  obtain ⟨us', hus⟩ : ∃ u, us - (eb - ab) = u := ⟨_, rfl⟩
  rw [hus] at HCt ⊢
  have hne1 : ((ao : Int) != (eo : Int)) = true := by have := hlt.1; simp; omega
  clear hS hD hm hy hc ho hK hT hCB hCd hBw hKl hKn hpf hse heo hfl hP he ha hlt h0 hsu hus hi
  go_enter Tryz.func28, Tryz.ntmps28
  go_wp2_with fail
  refine HG.out.mono ?_
  rintro e W ⟨rfl, hW⟩
  obtain rfl := hW.symm
  clear HG hW
  have hsg0 := HH.out.1
  rw [HPE.out.2.1] at hsg0
  obtain ⟨c0, c1, c2, c3, c5, c6, c7⟩ := hsg0.cells
  simp only at c5 c6 c7
  clear hsg0
  obtain ⟨U, hU⟩ : ∃ U, w.heap.size = U := ⟨_, rfl⟩
  have hba := below_a w (.cells #[.int .i64 (eo : Nat), .int .i64 (eb : Nat), .int .i64 (ec : Nat)] 82)
  have H1 := hide (And.intro hba (heap_alloc_new w (.cells #[.int .i64 (eo : Nat), .int .i64 (eb : Nat), .int .i64 (ec : Nat)] 82)))
  rw [hU] at H1
  have HUU := hide hU
  clear hba
  go_upto_region 4 with fail
  try rw [hU]
  generalize (w.alloc (.cells #[.int .i64 (eo : Nat), .int .i64 (eb : Nat), .int .i64 (ec : Nat)] 82)) = w1 at H1
  clear hU c0 c1 c2 c3 c5 c6 c7
  obtain ⟨u0, u1, u2⟩ := cellsP3 H1.out.2
  have HFi' := hide (HFi.out w1 (by rw [HUU.out]; exact H1.out.1))
  clear HFi
  go_wp2_with fail
  refine HFi'.out.mono ?_
  rintro e w2 ⟨j, bj, hj, hj1, hj2, rfl, hb2⟩
  have hji : j = i := by
    obtain ⟨b, hb⟩ : ∃ b, l[i]? = some b := ⟨_, List.getElem?_eq_getElem HH.out.2.2.2.2.2.2.2.2.2.2.2.2.2⟩
    exact only (base := base) HH.out.2.2.2.2.2.1 hj hb (o := (ao : Int)) (by omega) (by omega) (by rw [HPE.out.2.2]; exact Int.le_refl _) (by have := HSU.out.1.1; omega)
  subst hji
  rw [HPE.out.2.2]
  simp only [Pl.v]
  obtain ⟨bs, hbs⟩ : ∃ bs, bj.s = bs := ⟨_, rfl⟩
  rw [hbs]
  clear hbs hj hj1 hj2
  obtain ⟨V, hV⟩ : ∃ V, w2.heap.size = V := ⟨_, rfl⟩
  have hU1 := lt_of_block H1.out.2
  have hb12 := hb2
  have hba3 := below_a w2 (.cells #[.int .i64 (ao : Nat), .int .i64 (ab : Nat), .int .i64 (ac : Nat)] 82)
  have H3 : Hid (Below U w (w2.alloc (.cells #[.int .i64 (ao : Nat), .int .i64 (ab : Nat), .int .i64 (ac : Nat)] 82)) ∧ (w2.alloc (.cells #[.int .i64 (ao : Nat), .int .i64 (ab : Nat), .int .i64 (ac : Nat)] 82)).heap[U]? = some (.cells #[.int .i64 (eo : Nat), .int .i64 (eb : Nat), .int .i64 (ec : Nat)] 82 (0, 0)) ∧ (w2.alloc (.cells #[.int .i64 (ao : Nat), .int .i64 (ab : Nat), .int .i64 (ac : Nat)] 82)).heap[V]? = some (.cells #[.int .i64 (ao : Nat), .int .i64 (ab : Nat), .int .i64 (ac : Nat)] 82 (0, 0))) := by
    have hU2 := Nat.lt_of_lt_of_le hU1 hb2.size
    exact ⟨(H1.out.1.trans (hb2.mono (Nat.le_of_lt hU1))).trans (hba3.mono (Nat.le_of_lt hU2)), (hba3.block U hU2).trans ((hb2.block U hU1).trans H1.out.2), by rw [← hV]; exact heap_alloc_new _ _⟩
  clear hb12 hba3 hU1 hb2 HFi' u0 u1 u2
  go_upto_region 6 with fail
  try rw [hV]
  generalize (w2.alloc (.cells #[.int .i64 (ao : Nat), .int .i64 (ab : Nat), .int .i64 (ac : Nat)] 82)) = w3 at H3
  clear hV
  obtain ⟨v0, v1, v2⟩ := cellsP3 H3.out.2.2
  obtain ⟨u0, u1, u2⟩ := cellsP3 H3.out.2.1
  have fu := frozen0 H3.out.2.1
  clear hne1
  go_upto_region 11 with fail
  have H4 : Hid (Below U w (((w3.setCell ⟨U, 0, none⟩ (.int .i64 (ao : Nat))).setCell ⟨U, 1, none⟩ (.int .i64 (ab : Nat))).setCell ⟨U, 2, none⟩ (.int .i64 (ac : Nat))) ∧ (((w3.setCell ⟨U, 0, none⟩ (.int .i64 (ao : Nat))).setCell ⟨U, 1, none⟩ (.int .i64 (ab : Nat))).setCell ⟨U, 2, none⟩ (.int .i64 (ac : Nat))).heap[U]? = some (.cells #[.int .i64 (ao : Nat), .int .i64 (ab : Nat), .int .i64 (ac : Nat)] 82 (0, 0))) :=
    ⟨((H3.out.1.trans (below_set w3 _ (Nat.le_refl _))).trans (below_set _ _ (Nat.le_refl _))).trans (below_set _ _ (Nat.le_refl _)), block_set (i := 2) (u := .int .i64 (ac : Nat)) (block_set (i := 1) (u := .int .i64 (ab : Nat)) (block_set (i := 0) (u := .int .i64 (ao : Nat)) H3.out.2.1))⟩
  generalize (((w3.setCell ⟨U, 0, none⟩ (.int .i64 (ao : Nat))).setCell ⟨U, 1, none⟩ (.int .i64 (ab : Nat))).setCell ⟨U, 2, none⟩ (.int .i64 (ac : Nat))) = w4 at H4
  clear v0 v1 v2 u0 u1 u2 fu H3 H1
  have hbw : Below w.heap.size w w4.drew := by rw [HUU.out]; exact bl_drew.2 H4.out.1
  have HS4 := hide (HH.out.1.below hbw)
  have HVD := hide (HH.out.2.1.below hbw)
  have HBW := hide hbw
  obtain ⟨c0, c1, c2, c3, c5, c6, c7⟩ := HS4.out.cells
  obtain ⟨u0, u1, u2⟩ := cellsP3 H4.out.2
  have d1 : w4.drew.cell? ⟨U, 1, none⟩ = some (.int .i64 (ab : Nat)) := u1
  have HCt' := hide (HCt.out w4.drew HVD.out)
  clear c0 c3 c5 c6 c7 hbw u0 u1 u2 HCt
  go_region_held_law (fun w' => w'.cell? ⟨s, 1, none⟩ = some (.pointer (some ⟨d, 0, none⟩)) ∧ w'.cell? ⟨s, 2, none⟩ = some (.string nm) ∧ w'.cell? ⟨U, 1, none⟩ = some (.int .i64 (ab : Nat)))
    (first | exact ⟨c1, c2, d1⟩ | go_keep)
    (first
      | (go_at_call 57; refine HCt'.out.mono ?_; rintro e w5 ⟨rfl, hD5, hV5⟩; have hu5 : w5.heap[U]? = some (.cells #[.int .i64 (ao : Nat), .int .i64 (ab : Nat), .int .i64 (ac : Nat)] 82 (0, 0)) := (hV5.kept U _ _ _ H4.out.2 (by decide) (by decide) (by decide)).trans H4.out.2; have hk5 : w5.cell? ⟨s, 1, none⟩ = some (.pointer (some ⟨d, 0, none⟩)) ∧ w5.cell? ⟨s, 2, none⟩ = some (.string nm) ∧ w5.cell? ⟨U, 1, none⟩ = some (.int .i64 (ab : Nat)) := ⟨(HS4.out.vf hV5).cells.2.1, (HS4.out.vf hV5).cells.2.2.1, (cellsP3 hu5).2.1⟩; have H5 := hide (And.intro hD5 (And.intro hV5 hu5)); clear hD5 hV5 hu5)
      | (go_at_call 55; refine (HU.out _).mono ?_; rintro e Wz ⟨rfl, hWz⟩; obtain rfl := hWz.symm; clear hWz))
  clear hk5 c1 c2 d1
  have HS5 := hide (HS4.out.vf H5.out.2.1)
  have hP5 := HS5.out
  rw [HPE.out.1] at hP5
  have HDr := hide (drop_ok w5 B s d base nm P (plAt base l l.length) ⟨ao, ab, ac⟩ hP5 (by rw [← HPE.out.1]; exact HH.out.2.2.2.2.2.2.2.2.2.2.2.1) (by rw [← HPE.out.1]; exact HH.out.2.2.2.2.2.2.2.2.2.2.2.2.1) (Nat.le_trans HH.out.2.2.2.2.2.2.2.2.2.2.1 (Nat.le_trans HBW.out.size H5.out.2.1.below.size)))
  simp only [Pl.v] at HDr
  obtain ⟨u0, u1, u2⟩ := cellsP3 H5.out.2.2
  clear hP5
  go_wp2_with fail
  refine HDr.out.mono ?_
  rintro e w6 ⟨rfl, htk, m, hm1, hsg6, hm2, hm3⟩
  have hvd6 := htk.vd HS5.out H5.out.1
  have hex : ∃ m, m ≤ P.length ∧ SG w6 B s d nm base (P.take m) ⟨ao, ab, ac⟩ ∧ (∀ j p, m ≤ j → P[j]? = some p → ab ≤ p.byt) ∧ (m = 0 ∨ ∃ p, P[m - 1]? = some p ∧ p.byt < ab) := ⟨m, hm1, hsg6, hm2, hm3⟩
  have H6 : Hid (_ ∧ _ ∧ AF C s w w6) := ⟨hex, hvd6, ((AF.of HBW.out (Nat.le_trans (Nat.le_trans HH.out.2.2.2.2.2.2.2.2.1 HH.out.2.2.2.2.2.2.2.2.2.2.1) (Nat.le_refl _)) HH.out.1.lt).trans (AF.vf H5.out.2.1 HH.out.2.2.2.2.2.2.2.2.2.1 HS4.out)).trans (AF.tk htk HH.out.2.2.2.2.2.2.2.2.1)⟩
  clear hex htk hm1 hsg6 hm2 hm3 hvd6 HDr u0 u1 u2
  go_wp2
  go_ret
  exact ⟨rfl, H6.out.1, H6.out.2.1, H6.out.2.2⟩
end Go.Proofs.YtogmfdgpnkbpaaaGreatDoor
namespace Go.Proofs.YtogmfdgpnkbpaaaGreatDoor
open Go.RowKit
set_option linter.unusedVariables false
set_option maxRecDepth 20000
set_option maxRecDepth 20000

set_option maxHeartbeats 8000000 in
theorem scut_end (w : World) (B Bd C s d base room cnt us : Nat) (nm : ByteArray) (F : List UInt8 → Option (List Nat × Nat)) (l : List BT) (K : List Nat) (y : Nat) (hS : SG w B s d nm base (K.map (plAt base l)) (plAt base l l.length)) (hD : V8.VD w Bd d room F cnt us) (hm : V8.May nm) (hy : F nm.data.toList = some ((allB l).map UInt8.toNat, y)) (hc : chain base l) (ho : allOK l) (hK : Marks l.length K) (hT : TabF w)  (hl : l ≠ []) (hCB : C ≤ B) (hCd : C ≤ Bd) (hBw : B ≤ w.heap.size) (hKl : K.length ≤ 1073741824) :
    Calls Tryz.prog 28 #[.pointer (some ⟨s, 0, none⟩), .int .i64 ((plAt base l l.length).off : Nat)] w fun e w' => e = .returned (.int .i64 0) ∧ (∃ m, m ≤ (K.map (plAt base l)).length ∧ SG w' B s d nm base ((K.map (plAt base l)).take m) (plAt base l l.length) ∧ (∀ j p, m ≤ j → (K.map (plAt base l))[j]? = some p → (plAt base l l.length).byt ≤ p.byt) ∧ (m = 0 ∨ ∃ p, (K.map (plAt base l))[m - 1]? = some p ∧ p.byt < (plAt base l l.length).byt)) ∧ V8.VD w' Bd d room (V8.upd F nm.data.toList (some (((allB l).map UInt8.toNat).take (plAt base l l.length).byt, (plAt base l l.length).byt))) cnt (us - (szs l - (plAt base l l.length).byt)) ∧ AF C s w w' := by
  have HG := hide (sgiven_yes s w hS.cells.1)
  have h0 := plAt_le (base := base) ho (Nat.zero_le l.length) (Nat.le_refl _)
  rw [plAt_zero] at h0
  simp only at h0
  have hpf := plAt_full base l
  have hl0 : 0 < l.length := by cases l with | nil => exact absurd rfl hl | cons => exact Nat.succ_pos _
  have hKn : K.map (plAt base l) ≠ [] := by
    intro e
    have := hK.first (by omega)
    rw [List.map_eq_nil_iff] at e
    rw [e] at this
    cases this
  have HU := hide (fun W => unlessNone_ok W 0 0 (.inr ⟨by decide, rfl⟩))
  have HH := hide (And.intro hS (And.intro hD (And.intro hm (And.intro hy (And.intro hc (And.intro ho (And.intro hK (And.intro hT (And.intro hCB (And.intro hCd (And.intro hBw (And.intro hKn (show (K.map (plAt base l)).length ≤ 1073741824 by rw [List.length_map]; exact hKl)))))))))))))
  obtain ⟨P, hP⟩ : ∃ P, K.map (plAt base l) = P := ⟨_, rfl⟩
  obtain ⟨⟨eo, eb, ec⟩, he⟩ : ∃ p, plAt base l l.length = p := ⟨_, rfl⟩
  have HPE := hide (And.intro hP he)
  rw [he] at h0 ⊢
  rw [hP]
  simp only at h0 ⊢
  have hse : szs l = eb := by rw [he] at hpf; exact (congrArg Pl.byt hpf).symm
  have hfl : ((allB l).map UInt8.toNat).length = eb := by rw [List.length_map]; exact hse
  have HCt := hide (fun W (hW : V8.VD W Bd d room F cnt us) => V8.cut_some W Bd d room cnt us F hW nm hm _ y hy eb (by rw [hfl]; exact Nat.le_refl _))
  rw [hfl] at HCt
  rw [hse]
  obtain ⟨us', hus⟩ : ∃ u, us - (eb - eb) = u := ⟨_, rfl⟩
  rw [hus] at HCt ⊢
  have hne1 : ((eo : Int) != (eo : Int)) = false := by simp
  clear hS hD hm hy hc ho hK hT hCB hCd hBw hKl hKn hpf hse hfl hP he h0 hus hl hl0
  go_enter Tryz.func28, Tryz.ntmps28
  go_wp2_with fail
  refine HG.out.mono ?_
  rintro e W ⟨rfl, hW⟩
  obtain rfl := hW.symm
  clear HG hW
  have hsg0 := HH.out.1
  rw [HPE.out.2] at hsg0
  obtain ⟨c0, c1, c2, c3, c5, c6, c7⟩ := hsg0.cells
  simp only at c5 c6 c7
  clear hsg0
  obtain ⟨U, hU⟩ : ∃ U, w.heap.size = U := ⟨_, rfl⟩
  have hba := below_a w (.cells #[.int .i64 (eo : Nat), .int .i64 (eb : Nat), .int .i64 (ec : Nat)] 82)
  have H4 := hide (And.intro hba (heap_alloc_new w (.cells #[.int .i64 (eo : Nat), .int .i64 (eb : Nat), .int .i64 (ec : Nat)] 82)))
  rw [hU] at H4
  have HUU := hide hU
  clear hba
  go_upto_region 4 with fail
  try rw [hU]
  generalize (w.alloc (.cells #[.int .i64 (eo : Nat), .int .i64 (eb : Nat), .int .i64 (ec : Nat)] 82)) = w4 at H4
  clear hU c0 c1 c2 c3 c5 c6 c7
  obtain ⟨u0, u1, u2⟩ := cellsP3 H4.out.2
  go_upto_region 11 with fail
  clear hne1 u0 u1 u2
  have hbw : Below w.heap.size w w4.drew := by rw [HUU.out]; exact bl_drew.2 H4.out.1
  have HS4 := hide (HH.out.1.below hbw)
  have HVD := hide (HH.out.2.1.below hbw)
  have HBW := hide hbw
  obtain ⟨c0, c1, c2, c3, c5, c6, c7⟩ := HS4.out.cells
  obtain ⟨u0, u1, u2⟩ := cellsP3 H4.out.2
  have d1 : w4.drew.cell? ⟨U, 1, none⟩ = some (.int .i64 (eb : Nat)) := u1
  have HCt' := hide (HCt.out w4.drew HVD.out)
  clear c0 c3 c5 c6 c7 hbw u0 u1 u2 HCt
  go_region_held_law (fun w' => w'.cell? ⟨s, 1, none⟩ = some (.pointer (some ⟨d, 0, none⟩)) ∧ w'.cell? ⟨s, 2, none⟩ = some (.string nm) ∧ w'.cell? ⟨U, 1, none⟩ = some (.int .i64 (eb : Nat)))
    (first | exact ⟨c1, c2, d1⟩ | go_keep)
    (first
      | (go_at_call 57; refine HCt'.out.mono ?_; rintro e w5 ⟨rfl, hD5, hV5⟩; have hu5 : w5.heap[U]? = some (.cells #[.int .i64 (eo : Nat), .int .i64 (eb : Nat), .int .i64 (ec : Nat)] 82 (0, 0)) := (hV5.kept U _ _ _ H4.out.2 (by decide) (by decide) (by decide)).trans H4.out.2; have hk5 : w5.cell? ⟨s, 1, none⟩ = some (.pointer (some ⟨d, 0, none⟩)) ∧ w5.cell? ⟨s, 2, none⟩ = some (.string nm) ∧ w5.cell? ⟨U, 1, none⟩ = some (.int .i64 (eb : Nat)) := ⟨(HS4.out.vf hV5).cells.2.1, (HS4.out.vf hV5).cells.2.2.1, (cellsP3 hu5).2.1⟩; have H5 := hide (And.intro hD5 (And.intro hV5 hu5)); clear hD5 hV5 hu5)
      | (go_at_call 55; refine (HU.out _).mono ?_; rintro e Wz ⟨rfl, hWz⟩; obtain rfl := hWz.symm; clear hWz))
  clear hk5 c1 c2 d1
  have HS5 := hide (HS4.out.vf H5.out.2.1)
  have hP5 := HS5.out
  rw [HPE.out.1] at hP5
  have HDr := hide (drop_ok w5 B s d base nm P (plAt base l l.length) ⟨eo, eb, ec⟩ hP5 (by rw [← HPE.out.1]; exact HH.out.2.2.2.2.2.2.2.2.2.2.2.1) (by rw [← HPE.out.1]; exact HH.out.2.2.2.2.2.2.2.2.2.2.2.2) (Nat.le_trans HH.out.2.2.2.2.2.2.2.2.2.2.1 (Nat.le_trans HBW.out.size H5.out.2.1.below.size)))
  simp only [Pl.v] at HDr
  obtain ⟨u0, u1, u2⟩ := cellsP3 H5.out.2.2
  clear hP5
  go_wp2_with fail
  refine HDr.out.mono ?_
  rintro e w6 ⟨rfl, htk, m, hm1, hsg6, hm2, hm3⟩
  have hvd6 := htk.vd HS5.out H5.out.1
  have hex : ∃ m, m ≤ P.length ∧ SG w6 B s d nm base (P.take m) ⟨eo, eb, ec⟩ ∧ (∀ j p, m ≤ j → P[j]? = some p → eb ≤ p.byt) ∧ (m = 0 ∨ ∃ p, P[m - 1]? = some p ∧ p.byt < eb) := ⟨m, hm1, hsg6, hm2, hm3⟩
  have H6 : Hid (_ ∧ _ ∧ AF C s w w6) := ⟨hex, hvd6, ((AF.of HBW.out (Nat.le_trans (Nat.le_trans HH.out.2.2.2.2.2.2.2.2.1 HH.out.2.2.2.2.2.2.2.2.2.2.1) (Nat.le_refl _)) HH.out.1.lt).trans (AF.vf H5.out.2.1 HH.out.2.2.2.2.2.2.2.2.2.1 HS4.out)).trans (AF.tk htk HH.out.2.2.2.2.2.2.2.2.1)⟩
  clear hex htk hm1 hsg6 hm2 hm3 hvd6 HDr u0 u1 u2
  go_wp2
  go_ret
  exact ⟨rfl, H6.out.1, H6.out.2.1, H6.out.2.2⟩
end Go.Proofs.YtogmfdgpnkbpaaaGreatDoor
namespace Go.Proofs.YtogmfdgpnkbpaaaGreatDoor
open Go.RowKit
set_option linter.unusedVariables false
set_option maxRecDepth 20000
set_option maxRecDepth 20000

set_option maxHeartbeats 4000000 in
theorem drop_nil (w : World) (B s d base : Nat) (nm : ByteArray) (bh at_ : Pl) (h : SG w B s d nm base [] bh) (hBw : B ≤ w.heap.size) :
    Calls Tryz.prog 58 #[.pointer (some ⟨s, 0, none⟩), at_.v] w fun e w' => e = .returned (.tuple #[]) ∧ TK B s w w' ∧ SG w' B s d nm base [] at_ := by
  have hslt := h.lt
  have hsB := h.hB
  obtain ⟨pv, hblk, hrow⟩ := h.blk
  obtain ⟨pa, cap, rfl⟩ := rowForm hrow
  obtain ⟨bo, bb, bc⟩ := bh
  obtain ⟨ao, ab, ac⟩ := at_
  simp only [Pl.v, List.length_nil] at hblk hrow ⊢
  have hba := below_a w (.cells #[.int .i64 (ao : Nat), .int .i64 (ab : Nat), .int .i64 (ac : Nat)] 82)
  have HD : Hid ((w.alloc (.cells #[.int .i64 (ao : Nat), .int .i64 (ab : Nat), .int .i64 (ac : Nat)] 82)).heap[s]? = some (.cells #[.pointer (some ⟨s, 0, none⟩), .pointer (some ⟨d, 0, none⟩), .string nm, .int .i64 (base : Nat), .slice pa 0 cap, .int .i64 (bo : Nat), .int .i64 (bb : Nat), .int .i64 (bc : Nat)] 96 (0, 0)) ∧ (w.alloc (.cells #[.int .i64 (ao : Nat), .int .i64 (ab : Nat), .int .i64 (ac : Nat)] 82)).ownsRow B 82 3 (.slice pa 0 cap) 0 (plc []) ∧ (w.alloc (.cells #[.int .i64 (ao : Nat), .int .i64 (ab : Nat), .int .i64 (ac : Nat)] 82)).heap[w.heap.size]? = some (.cells #[.int .i64 (ao : Nat), .int .i64 (ab : Nat), .int .i64 (ac : Nat)] 82 (0, 0)) ∧ TK B s w (w.alloc (.cells #[.int .i64 (ao : Nat), .int .i64 (ab : Nat), .int .i64 (ac : Nat)] 82))) :=
    ⟨(hba.block s (lt_of_block hblk)).trans hblk, owns_below hrow hba, heap_alloc_new _ _, TK.of hba hBw hslt⟩
  obtain ⟨X, hX⟩ : ∃ X, w.heap.size = X := ⟨_, rfl⟩
  rw [hX] at HD
  have HB := hide hsB
  clear hblk hrow hba hBw hslt h hsB
  go_enter Tryz.func58, Tryz.ntmps58
  go_upto_region 1 with fail
  try rw [hX]
  generalize (w.alloc (.cells #[.int .i64 (ao : Nat), .int .i64 (ab : Nat), .int .i64 (ac : Nat)] 82)) = w1 at HD
  clear hX
  have c4 : w1.cell? ⟨s, 4, none⟩ = some (.slice pa 0 cap) := by simp [World.cell?, HD.out.1]
  go_upto_region 2 with fail
  clear c4
  go_wp2
  go_loopw [4] (fun v wr => v = .int .i64 (-1) ∧ Hid (wr.heap[s]? = some (.cells #[.pointer (some ⟨s, 0, none⟩), .pointer (some ⟨d, 0, none⟩), .string nm, .int .i64 (base : Nat), .slice pa 0 cap, .int .i64 (bo : Nat), .int .i64 (bb : Nat), .int .i64 (bc : Nat)] 96 (0, 0)) ∧ wr.ownsRow B 82 3 (.slice pa 0 cap) 0 (plc []) ∧ wr.heap[X]? = some (.cells #[.int .i64 (ao : Nat), .int .i64 (ab : Nat), .int .i64 (ac : Nat)] 82 (0, 0)) ∧ TK B s w wr)) (fun v _ => (intOf v + 1).toNat)
  case atStart => exact ⟨rfl, HD⟩
  case round =>
    obtain ⟨rfl, HL⟩ := hrel
    clear HD
    obtain ⟨x0, x1, x2⟩ := cellsP3 HL.out.2.2.1
    have d5 : wr.cell? ⟨s, 5, none⟩ = some (.int .i64 (bo : Nat)) := by simp [World.cell?, HL.out.1]
    have d6 : wr.cell? ⟨s, 6, none⟩ = some (.int .i64 (bb : Nat)) := by simp [World.cell?, HL.out.1]
    have d7 : wr.cell? ⟨s, 7, none⟩ = some (.int .i64 (bc : Nat)) := by simp [World.cell?, HL.out.1]
    have fs := frozen0 HL.out.1
    have HE : Hid (TK B s w (((wr.drew.setCell ⟨s, 5, none⟩ (.int .i64 (ao : Nat))).setCell ⟨s, 6, none⟩ (.int .i64 (ab : Nat))).setCell ⟨s, 7, none⟩ (.int .i64 (ac : Nat))) ∧ SG (((wr.drew.setCell ⟨s, 5, none⟩ (.int .i64 (ao : Nat))).setCell ⟨s, 6, none⟩ (.int .i64 (ab : Nat))).setCell ⟨s, 7, none⟩ (.int .i64 (ac : Nat))) B s d nm base [] ⟨ao, ab, ac⟩) := by
      have hb : wr.drew.heap[s]? = _ := HL.out.1
      have s5 := block_set (i := 5) (u := .int .i64 (ao : Nat)) hb
      have s6 := block_set (i := 6) (u := .int .i64 (ab : Nat)) s5
      have s7 := block_set (i := 7) (u := .int .i64 (ac : Nat)) s6
      have hBw : B ≤ wr.heap.size := Nat.le_trans HB.out (Nat.le_of_lt (lt_of_block HL.out.1))
      refine ⟨(((HL.out.2.2.2.trans (TK.of (belD wr) hBw (lt_of_block HL.out.1))).trans (TK.set _ HB.out hb (by decide))).trans (TK.set _ HB.out s5 (by decide))).trans (TK.set _ HB.out s6 (by decide)), ⟨⟨.slice pa 0 cap, ?_, ?_⟩, HB.out⟩⟩
      · exact s7
      · have hr : wr.drew.ownsRow B 82 3 (.slice pa 0 cap) 0 (plc []) := owns_below HL.out.2.1 (belD wr)
        refine rowKeep hr fun g' cs e => ?_
        have hg : g' ≠ s := by rintro rfl; rw [hb] at e; cases e
        rw [Below.heap_setCell _ _ _ _ (by simpa using hg), Below.heap_setCell _ _ _ _ (by simpa using hg), Below.heap_setCell _ _ _ _ (by simpa using hg)]
    go_upto_region 2 with fail
    go_region
    go_wp2
    go_end0
    exact ⟨rfl, HE.out.1, HE.out.2⟩
end Go.Proofs.YtogmfdgpnkbpaaaGreatDoor
namespace Go.Proofs.YtogmfdgpnkbpaaaGreatDoor
open Go.RowKit
set_option linter.unusedVariables false
set_option maxRecDepth 20000
set_option maxRecDepth 20000

set_option maxHeartbeats 8000000 in
theorem scut_empty (w : World) (B Bd C s d base room cnt us eo eb ec : Nat) (nm : ByteArray) (F : List UInt8 → Option (List Nat × Nat)) (hS : SG w B s d nm base [] ⟨eo, eb, ec⟩) (hD : V8.VD w Bd d room F cnt us) (c us' : Nat) (F' : List UInt8 → Option (List Nat × Nat)) (hc : c = 0 ∨ c = 3) (hC : ∀ W, V8.VD W Bd d room F cnt us → Calls Tryz.prog 57 #[.pointer (some ⟨d, 0, none⟩), .string nm, .int .i64 (eb : Nat)] W fun e w' => e = .returned (.int .i64 (c : Nat)) ∧ V8.VD w' Bd d room F' cnt us' ∧ V8.VF Bd W w') (hCB : C ≤ B) (hCd : C ≤ Bd) (hBw : B ≤ w.heap.size) :
    Calls Tryz.prog 28 #[.pointer (some ⟨s, 0, none⟩), .int .i64 (eo : Nat)] w fun e w' => e = .returned (.int .i64 0) ∧ SG w' B s d nm base [] ⟨eo, eb, ec⟩ ∧ V8.VD w' Bd d room F' cnt us' ∧ AF C s w w' := by
  have HG := hide (sgiven_yes s w hS.cells.1)
  have HU := hide (fun W => unlessNone_ok W c 0 (by rcases hc with h | h <;> subst h <;> simp))
  have HCt := hide hC
  have HH := hide (And.intro hS (And.intro hD (And.intro hCB (And.intro hCd hBw))))
  have hne1 : ((eo : Int) != (eo : Int)) = false := by simp
  clear hS hD hC hc hCB hCd hBw
  go_enter Tryz.func28, Tryz.ntmps28
  go_wp2_with fail
  refine HG.out.mono ?_
  rintro e W ⟨rfl, hW⟩
  obtain rfl := hW.symm
  clear HG hW
  obtain ⟨c0, c1, c2, c3, c5, c6, c7⟩ := HH.out.1.cells
  simp only at c5 c6 c7
  obtain ⟨U, hU⟩ : ∃ U, w.heap.size = U := ⟨_, rfl⟩
  have hba := below_a w (.cells #[.int .i64 (eo : Nat), .int .i64 (eb : Nat), .int .i64 (ec : Nat)] 82)
  have H4 := hide (And.intro hba (heap_alloc_new w (.cells #[.int .i64 (eo : Nat), .int .i64 (eb : Nat), .int .i64 (ec : Nat)] 82)))
  rw [hU] at H4
  have HUU := hide hU
  clear hba
  go_upto_region 4 with fail
  try rw [hU]
  generalize (w.alloc (.cells #[.int .i64 (eo : Nat), .int .i64 (eb : Nat), .int .i64 (ec : Nat)] 82)) = w4 at H4
  clear hU c0 c1 c2 c3 c5 c6 c7
  obtain ⟨u0, u1, u2⟩ := cellsP3 H4.out.2
  go_upto_region 11 with fail
  clear hne1 u0 u1 u2
  have hbw : Below w.heap.size w w4.drew := by rw [HUU.out]; exact bl_drew.2 H4.out.1
  have HS4 := hide (HH.out.1.below hbw)
  have HVD := hide (HH.out.2.1.below hbw)
  have HBW := hide hbw
  obtain ⟨c0, c1, c2, c3, c5, c6, c7⟩ := HS4.out.cells
  obtain ⟨u0, u1, u2⟩ := cellsP3 H4.out.2
  have d1 : w4.drew.cell? ⟨U, 1, none⟩ = some (.int .i64 (eb : Nat)) := u1
  have HCt' := hide (HCt.out w4.drew HVD.out)
  clear c0 c3 c5 c6 c7 hbw u0 u1 u2 HCt
  go_region_held_law (fun w' => w'.cell? ⟨s, 1, none⟩ = some (.pointer (some ⟨d, 0, none⟩)) ∧ w'.cell? ⟨s, 2, none⟩ = some (.string nm) ∧ w'.cell? ⟨U, 1, none⟩ = some (.int .i64 (eb : Nat)))
    (first | exact ⟨c1, c2, d1⟩ | go_keep)
    (first
      | (go_at_call 57; refine HCt'.out.mono ?_; rintro e w5 ⟨rfl, hD5, hV5⟩; have hu5 : w5.heap[U]? = some (.cells #[.int .i64 (eo : Nat), .int .i64 (eb : Nat), .int .i64 (ec : Nat)] 82 (0, 0)) := (hV5.kept U _ _ _ H4.out.2 (by decide) (by decide) (by decide)).trans H4.out.2; have hk5 : w5.cell? ⟨s, 1, none⟩ = some (.pointer (some ⟨d, 0, none⟩)) ∧ w5.cell? ⟨s, 2, none⟩ = some (.string nm) ∧ w5.cell? ⟨U, 1, none⟩ = some (.int .i64 (eb : Nat)) := ⟨(HS4.out.vf hV5).cells.2.1, (HS4.out.vf hV5).cells.2.2.1, (cellsP3 hu5).2.1⟩; have H5 := hide (And.intro hD5 (And.intro hV5 hu5)); clear hD5 hV5 hu5)
      | (go_at_call 55; refine (HU.out _).mono ?_; rintro e Wz ⟨rfl, hWz⟩; obtain rfl := hWz.symm; clear hWz))
  clear hk5 c1 c2 d1
  have HS5 := hide (HS4.out.vf H5.out.2.1)
  have HDr := hide (drop_nil w5 B s d base nm ⟨eo, eb, ec⟩ ⟨eo, eb, ec⟩ HS5.out (Nat.le_trans HH.out.2.2.2.2 (Nat.le_trans HBW.out.size H5.out.2.1.below.size)))
  simp only [Pl.v] at HDr
  obtain ⟨u0, u1, u2⟩ := cellsP3 H5.out.2.2
  go_wp2_with fail
  refine HDr.out.mono ?_
  rintro e w6 ⟨rfl, htk, hsg6⟩
  have hvd6 := htk.vd HS5.out H5.out.1
  have H6 : Hid (_ ∧ _ ∧ AF C s w w6) := ⟨hsg6, hvd6, ((AF.of HBW.out (Nat.le_trans HH.out.2.2.1 HH.out.2.2.2.2) HH.out.1.lt).trans (AF.vf H5.out.2.1 HH.out.2.2.2.1 HS4.out)).trans (AF.tk htk HH.out.2.2.1)⟩
  clear htk hsg6 hvd6 HDr u0 u1 u2
  go_wp2
  go_ret
  exact ⟨rfl, H6.out.1, H6.out.2.1, H6.out.2.2⟩
end Go.Proofs.YtogmfdgpnkbpaaaGreatDoor
