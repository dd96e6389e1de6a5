/- Layer 11: a segment's state through Append; what the law's own row keeps. -/
import Derived.Test.YtmokjopffgmfjaaGreatDoorEKtm
namespace Go.Proofs.YtmokjopffgmfjaaGreatDoor
open Go.RowKit
set_option linter.unusedVariables false
set_option maxRecDepth 20000
set_option maxRecDepth 20000

theorem map_plAt (base : Nat) (l m : List BT) (K : List Nat) (h : ∀ k ∈ K, k ≤ l.length) : K.map (plAt base (l ++ m)) = K.map (plAt base l) := by
  apply List.map_congr_left
  intro k hk
  exact plAt_append base l m k (h k hk)
theorem bytes_nat (l : List UInt8) : V8.bytesOf (mk l) = l.map UInt8.toNat := by
  unfold V8.bytesOf
  rw [mk_toList]
/-- A batch more. -/
theorem ss_append (w : World) (B Bd C s d base room cnt : Nat) (nm : ByteArray) (F : List UInt8 → Option (List Nat × Nat)) (l : List BT) (K : List Nat) (bt : BT) (hS : SS w B Bd s d base room cnt nm F l K) (hb : bt.ok) (hbase : bt.h.base = endB base l) (hT : TabF w) (hCB : C ≤ B) (hCd : C ≤ Bd) (hBw : B ≤ w.heap.size) (hr : szs l + bt.sz ≤ room) :
    Calls Tryz.prog 9 #[.pointer (some ⟨s, 0, none⟩), .string bt.s] w fun e w' => e = .returned (.int .i64 0) ∧ (∃ F' K' cnt', SS w' B Bd s d base room cnt' nm F' (l ++ [bt]) K') ∧ AF C s w w' := by
  obtain ⟨hl1, hl2⟩ := hS.len
  have hpf := plAt_full base l
  have hus : szs (l ++ [bt]) = szs l + bt.sz := by rw [szs_append, szs_one]
  have hall : (allB (l ++ [bt])).map UInt8.toNat = (allB l).map UInt8.toNat ++ V8.bytesOf bt.s := by
    rw [allB_append, List.map_append, bytes_nat]
    simp [allB]
  obtain ⟨F', cnt', hF', HDA⟩ : ∃ F' cnt', FileOf F' nm (l ++ [bt]) ∧ ∀ W, V8.VD W Bd d room F cnt (szs l) → Calls Tryz.prog 28 #[.pointer (some ⟨d, 0, none⟩), .string nm, .string bt.s] W fun e w' => e = .returned (.int .i64 0) ∧ V8.VD w' Bd d room F' cnt' (szs (l ++ [bt])) ∧ V8.VF Bd W w' := by
    rcases hS.file with ⟨h0, h1, h2⟩ | ⟨⟨y, hy⟩, h0⟩
    · refine ⟨V8.upd F nm.data.toList (some (V8.bytesOf bt.s, 0)), cnt + 1, ⟨0, ?_⟩, fun W hW => ?_⟩
      · rw [hall, h0]
        exact if_pos rfl
      · have := V8.append_none W Bd d room cnt (szs l) F hW nm bt.s hS.may h1 (by omega) (by rw [bt.size]; exact hr)
        rw [bt.size, ← hus] at this
        exact this
    · refine ⟨V8.upd F nm.data.toList (some ((allB l).map UInt8.toNat ++ V8.bytesOf bt.s, y)), cnt, ⟨y, ?_⟩, fun W hW => ?_⟩
      · rw [hall]
        exact if_pos rfl
      · have := V8.append_some W Bd d room cnt (szs l) F hW nm bt.s hS.may _ y hy (by rw [bt.size]; exact hr)
        rw [bt.size, ← hus] at this
        exact this
  have hKl : ∀ k ∈ K, k ≤ l.length := fun k hk => Nat.le_of_lt (hS.mks.lt k hk)
  have hKn : (K.map (plAt base l)).length ≤ 1073741824 := by
    rw [List.length_map]
    have : K.length ≤ l.length := by
      rcases Nat.lt_or_ge l.length K.length with hlt | hge
      · exfalso
        have hpw : ∀ i (hi : i < K.length), i ≤ K[i] := by
          intro i
          induction i with
          | zero => intro _; exact Nat.zero_le _
          | succ i ih =>
            intro hi
            have a := ih (by omega)
            have b := List.pairwise_iff_getElem.1 hS.mks.up i (i + 1) (by omega) hi (by omega)
            omega
        have a := hpw l.length hlt
        have b := hS.mks.lt _ (List.getElem_mem hlt)
        omega
      · exact hge
    omega
  have hg := sappend_gen w B Bd C s d base room cnt (szs l) cnt' (szs (l ++ [bt])) nm F F' _ _ bt hS.sg hS.vd hb hT (by rw [hpf]; exact hbase) hCB hCd hBw
    (by rw [hpf]; show szs l ≤ _; omega) (by rw [hpf]; show l.length ≤ _; omega) hKn
    (fun p hp => by
      obtain ⟨k, hk, rfl⟩ := List.mem_map.1 hp
      exact (plAt_le hS.ok (hKl k hk) (Nat.le_refl _)).2)
    HDA
  refine hg.mono ?_
  rintro e w' ⟨rfl, ⟨P', hsg, hP'⟩, hvd, haf⟩
  have hlast : plAt base (l ++ [bt]) (l ++ [bt]).length = ⟨bt.h.base + bt.h.cnt, (plAt base l l.length).byt + bt.sz, (plAt base l l.length).cnt + 1⟩ := by
    rw [plAt_full, hpf, endB_snoc, hus, hbase, List.length_append]
    rfl
  rw [← hlast] at hsg
  have hok : allOK (l ++ [bt]) := fun x hx => by
    rcases List.mem_append.1 hx with h | h
    · exact hS.ok x h
    · rw [List.mem_singleton] at h; subst h; exact hb
  have hch : chain base (l ++ [bt]) := chain_append.2 ⟨hS.ch, hbase, trivial⟩
  refine ⟨rfl, ?_, haf⟩
  rcases hP' with h | ⟨h, hne⟩
  · refine ⟨F', K ++ [l.length], cnt', ⟨?_, hvd, hS.may, .inr ⟨hF', by simp⟩, hch, hok, by rw [List.length_append]; exact hS.mks.add, hS.hb⟩⟩
    have e : (K ++ [l.length]).map (plAt base (l ++ [bt])) = P' := by
      rw [List.map_append, map_plAt base l [bt] K hKl, h]
      simp only [List.map_cons, List.map_nil]
      rw [plAt_append base l [bt] l.length (Nat.le_refl _)]
    rw [e]
    exact hsg
  · refine ⟨F', K, cnt', ⟨?_, hvd, hS.may, .inr ⟨hF', by simp⟩, hch, hok, by rw [List.length_append]; exact hS.mks.same (fun e => hne (by rw [e]; rfl)), hS.hb⟩⟩
    rw [map_plAt base l [bt] K hKl, ← h]
    exact hsg
/-- The disk is full. -/
theorem ss_disk (w : World) (B Bd s d base room cnt : Nat) (nm : ByteArray) (F : List UInt8 → Option (List Nat × Nat)) (l : List BT) (K : List Nat) (bt : BT) (hS : SS w B Bd s d base room cnt nm F l K) (hb : bt.ok) (hbase : bt.h.base = endB base l) (hT : TabF w) (hr : room < szs l + bt.sz) :
    Calls Tryz.prog 9 #[.pointer (some ⟨s, 0, none⟩), .string bt.s] w fun e w' => e = .returned (.int .i64 80) ∧ Below w.heap.size w w' := by
  refine sappend_disk w B Bd s d base room cnt (szs l) nm F _ _ bt hS.sg hS.vd hb hT (by rw [plAt_full]; exact hbase) (fun W hW => ?_)
  rcases hS.file with ⟨h0, h1, h2⟩ | ⟨⟨y, hy⟩, h0⟩
  · exact V8.append_disk_none W Bd d room cnt (szs l) F hW nm bt.s hS.may h1 (by omega) (by rw [bt.size]; exact hr)
  · exact V8.append_disk_some W Bd d room cnt (szs l) F hW nm bt.s hS.may _ y hy (by rw [bt.size]; exact hr)
theorem OwnS.af {w w' : World} {C Bh B s d base : Nat} {nm : ByteArray} {P : List Pl} {bh : Pl} {v : Value} {l : List BT} (h : OwnS w Bh v l) (hf : AF C s w w') (hS : SG w B s d nm base P bh) : OwnS w' Bh v l := by
  refine rowKeep h fun g cs e => hf.kept g _ _ _ e (by decide) (by decide) (by decide) ?_ (fun hr => ?_)
  · rintro rfl
    obtain ⟨pv, h1, _⟩ := hS.blk
    rw [h1] at e
    cases e
  · obtain ⟨_, cs', e'⟩ := hS.rowT hr
    rw [e] at e'
    cases e'
theorem strInfo : (Tryz.prog.info? 9).map (fun i => (i.zero, i.size, i.bytes)) = some (some (.string ⟨#[]⟩), 1, 16) := by kernel_rfl
theorem news1 (W : World) (a : Value) (t : TypeId) : ∀ j u, [a][j]? = some u → (W.alloc (.cells #[a] t)).cell? ((⟨W.heap.size, 0, none⟩ : Addr).add j) = some u :=
  World.news_of_block (heap_alloc_new W _)
theorem one1 (a : ByteArray) : ∀ u ∈ [Value.string a], u.oneCell' = true := by
  intro u hu; simp at hu; subst hu; rfl
/-- A segment's state where rows of the law's own turn. -/
theorem SS.grown {w w' : World} {B Bd s d base room cnt Bh : Nat} {nm : ByteArray} {F : List UInt8 → Option (List Nat × Nat)} {l : List BT} {K : List Nat} {v : Value} {m : List BT} (h : SS w B Bd s d base room cnt nm F l K) (ho : OwnS w Bh v m) (hg : w.grownBy w' v.ownBlock) : SS w' B Bd s d base room cnt nm F l K := by
  have hk : ∀ (i : Nat) (o : Obj), w.heap[i]? = some o → (∀ cs mk, o ≠ .cells cs 9 mk) → w'.heap[i]? = w.heap[i]? := fun i o hi ht => by
    have hil : i < w.heap.size := by
      rcases Nat.lt_or_ge i w.heap.size with h | h
      · exact h
      · rw [Array.getElem?_eq_none h] at hi; cases hi
    refine hg.block i hil (fun e => ?_)
    obtain ⟨_, cs, e'⟩ := rowBlk ho e.symm
    rw [hi] at e'
    cases e'
    exact ht _ _ rfl
  refine ⟨h.sg.keep fun i cs t mk hi ht => hk i _ hi (fun cs' mk' e => ?_), h.vd.typed (fun i cs t mk hi ht => hk i _ hi (fun cs' mk' e => ?_)) (fun i es c hi => hk i _ hi (fun cs' mk' e => by cases e)), h.may, h.file, h.ch, h.ok, h.mks, h.hb⟩
  · cases e
    rcases ht with h | h <;> revert h <;> decide
  · cases e
    rcases ht with h | h | h <;> revert h <;> decide
end Go.Proofs.YtmokjopffgmfjaaGreatDoor
