/- Layer 11: a segment on a disk that other segments share: Append, Sync, Cut. -/
/- Layer 11: a segment on a disk that other segments share: Cut. -/
/- Layer 11: other segments stand where one is called. -/
import Derived.Test.YtogmfdgpnkbpaaaGreatDoorV29
namespace Go.Proofs.YtogmfdgpnkbpaaaGreatDoor
open Go.RowKit
set_option linter.unusedVariables false
set_option maxRecDepth 20000
set_option maxRecDepth 20000

/-- A segment that holds batches, on a disk that it may share. -/
structure SN (w : World) (B s d base : Nat) (nm : ByteArray) (F : List UInt8 → Option (List Nat × Nat)) (l : List BT) (K : List Nat) : Prop where
  sg : SG w B s d nm base (K.map (plAt base l)) (plAt base l l.length)
  may : V8.May nm
  file : (l = [] ∧ F nm.data.toList = none) ∨ FileOf F nm l
  ch : chain base l
  ok : allOK l
  mks : Marks l.length K
theorem SN.keep {w w' : World} {B s d base : Nat} {nm : ByteArray} {F F' : List UInt8 → Option (List Nat × Nat)} {l : List BT} {K : List Nat} (h : SN w B s d base nm F l K) (hg : SG w' B s d nm base (K.map (plAt base l)) (plAt base l l.length)) (hF : F' nm.data.toList = F nm.data.toList) : SN w' B s d base nm F' l K := by
  refine ⟨hg, h.may, ?_, h.ch, h.ok, h.mks⟩
  rcases h.file with ⟨a, b⟩ | ⟨y, hy⟩
  · exact .inl ⟨a, hF.trans b⟩
  · exact .inr ⟨y, hF.trans hy⟩
theorem Marks.len_le {n : Nat} {K : List Nat} (h : Marks n K) : K.length ≤ n := by
  rcases Nat.lt_or_ge n K.length with hlt | hge
  · exfalso
    have hpw : ∀ i (hi : i < K.length), i ≤ K[i] := by
      intro i
      induction i with
      | zero => intro _; exact Nat.zero_le _
      | succ i ih =>
        intro hi
        have a := ih (by omega)
        have b := List.pairwise_iff_getElem.1 h.up i (i + 1) (by omega) hi (by omega)
        omega
    have a := hpw n hlt
    have b := h.lt _ (List.getElem_mem hlt)
    omega
  · exact hge
/-- What the marks and the bytes are behind a cut. -/
theorem cut_list {base : Nat} {l : List BT} {K : List Nat} (ho : allOK l) (hK : Marks l.length K) (i m : Nat) (hi : i ≤ l.length) (hm1 : m ≤ K.length)
    (hall : ∀ j p, m ≤ j → (K.map (plAt base l))[j]? = some p → (plAt base l i).byt ≤ p.byt) (hlast : m = 0 ∨ ∃ p, (K.map (plAt base l))[m - 1]? = some p ∧ p.byt < (plAt base l i).byt) :
    (K.map (plAt base l)).take m = (K.take m).map (plAt base (l.take i)) ∧ Marks (l.take i).length (K.take m) ∧ plAt base l i = plAt base (l.take i) (l.take i).length ∧ (allB l).take (plAt base l i).byt = allB (l.take i) := by
  have hli : (l.take i).length = i := by rw [List.length_take, Nat.min_eq_left hi]
  have hpl : ∀ k, k ≤ i → plAt base l k = plAt base (l.take i) k := fun k hk => by
    have := plAt_append base (l.take i) (l.drop i) k (by omega)
    rw [List.take_append_drop] at this
    exact this
  have hlt : ∀ k ∈ K.take m, k < i := by
    intro k hk
    rcases hlast with rfl | ⟨p, hp, hpb⟩
    · simp at hk
    · obtain ⟨q, hq, rfl⟩ := List.mem_iff_getElem.1 hk
      rw [List.length_take] at hq
      have hm0 : m - 1 < K.length := by omega
      rw [List.getElem?_map, List.getElem?_eq_getElem hm0] at hp
      simp only [Option.map_some, Option.some.injEq] at hp
      subst hp
      have h1 : K[m - 1] < i := by
        rcases Nat.lt_or_ge K[m - 1] i with h | h
        · exact h
        · have := (plAt_le (base := base) ho h (Nat.le_of_lt (hK.lt _ (List.getElem_mem hm0)))).2
          omega
      rw [List.getElem_take]
      rcases Nat.lt_or_eq_of_le (show q ≤ m - 1 by omega) with h | h
      · have := List.pairwise_iff_getElem.1 hK.up q (m - 1) (by omega) hm0 h
        omega
      · subst h; exact h1
  refine ⟨?_, ⟨hK.up.sublist (List.take_sublist _ _), fun k hk => by rw [hli]; exact hlt k hk, fun h0 => ?_⟩, ?_, ?_⟩
  · rw [← List.map_take]
    exact List.map_congr_left fun k hk => hpl k (Nat.le_of_lt (hlt k hk))
  · rw [hli] at h0
    have hf := hK.first (by omega)
    cases K with
    | nil => cases hf
    | cons a K =>
      simp only [List.head?_cons, Option.some.injEq] at hf
      subst hf
      cases m with
      | zero =>
        have h1 := hall 0 (plAt base l 0) (Nat.le_refl _) rfl
        have h2 := (plAt_lt (base := base) ho (show 0 < i by omega) hi).2
        omega
      | succ m => rfl
  · rw [hli]; exact hpl i (Nat.le_refl _)
  · have e : allB l = allB (l.take i) ++ allB (l.drop i) := by rw [← allB_append, List.take_append_drop]
    rw [e]
    exact List.take_left
/-- A batch more. -/
theorem sn_append (w : World) (B Bd C s d base room cnt us : Nat) (nm : ByteArray) (F : List UInt8 → Option (List Nat × Nat)) (l : List BT) (K : List Nat) (bt : BT) (hS : SN w B s d base nm F l K) (hD : V8.VD w Bd d room F cnt us) (hb : bt.ok) (hbase : bt.h.base = endB base l) (hT : TabF w) (hCB : C ≤ B) (hCd : C ≤ Bd) (hBw : B ≤ w.heap.size) (hl1 : l.length ≤ 1073741824) (hl2 : szs l ≤ 1073741824) (hr : us + bt.sz ≤ room) (hcn : cnt < 256) :
    Calls Tryz.prog 25 #[.pointer (some ⟨s, 0, none⟩), .string bt.s] w fun e w' => e = .returned (.int .i64 0) ∧ (∃ o K' cnt', SN w' B s d base nm (V8.upd F nm.data.toList o) (l ++ [bt]) K' ∧ V8.VD w' Bd d room (V8.upd F nm.data.toList o) cnt' (us + bt.sz) ∧ ((F nm.data.toList = none ∧ cnt' = cnt + 1) ∨ (F nm.data.toList ≠ none ∧ cnt' = cnt))) ∧ AF C s w w' := by
  have hpf := plAt_full base l
  have hall : (allB (l ++ [bt])).map UInt8.toNat = (allB l).map UInt8.toNat ++ V8.bytesOf bt.s := by
    rw [allB_append, List.map_append, bytes_nat]
    simp [allB]
  obtain ⟨o, cnt', hF', hcc, HDA⟩ : ∃ o cnt', FileOf (V8.upd F nm.data.toList o) nm (l ++ [bt]) ∧ ((F nm.data.toList = none ∧ cnt' = cnt + 1) ∨ (F nm.data.toList ≠ none ∧ cnt' = cnt)) ∧ ∀ W, V8.VD W Bd d room F cnt us → Calls Tryz.prog 53 #[.pointer (some ⟨d, 0, none⟩), .string nm, .string bt.s] W fun e w' => e = .returned (.int .i64 0) ∧ V8.VD w' Bd d room (V8.upd F nm.data.toList o) cnt' (us + bt.sz) ∧ V8.VF Bd W w' := by
    rcases hS.file with ⟨h0, h1⟩ | ⟨y, hy⟩
    · refine ⟨some (V8.bytesOf bt.s, 0), cnt + 1, ⟨0, ?_⟩, .inl ⟨h1, rfl⟩, fun W hW => ?_⟩
      · rw [hall, h0]
        exact if_pos rfl
      · have := V8.append_none W Bd d room cnt us F hW nm bt.s hS.may h1 hcn (by rw [bt.size]; exact hr)
        rw [bt.size] at this
        exact this
    · refine ⟨some ((allB l).map UInt8.toNat ++ V8.bytesOf bt.s, y), cnt, ⟨y, ?_⟩, .inr ⟨by rw [hy]; simp, rfl⟩, fun W hW => ?_⟩
      · rw [hall]
        exact if_pos rfl
      · have := V8.append_some W Bd d room cnt us F hW nm bt.s hS.may _ y hy (by rw [bt.size]; exact hr)
        rw [bt.size] at this
        exact this
  have hKl : ∀ k ∈ K, k ≤ l.length := fun k hk => Nat.le_of_lt (hS.mks.lt k hk)
  have hKn : (K.map (plAt base l)).length ≤ 1073741824 := by
    rw [List.length_map]
    have := hS.mks.len_le
    omega
  have hg := sappend_gen w B Bd C s d base room cnt us cnt' (us + bt.sz) nm F _ _ _ bt hS.sg hD hb hT (by rw [hpf]; exact hbase) hCB hCd hBw
    (by rw [hpf]; exact hl2) (by rw [hpf]; exact hl1) hKn
    (fun p hp => by
      obtain ⟨k, hk, rfl⟩ := List.mem_map.1 hp
      exact (plAt_le hS.ok (hKl k hk) (Nat.le_refl _)).2)
    HDA
  refine hg.mono ?_
  rintro e w' ⟨rfl, ⟨P', hsg, hP'⟩, hvd, haf⟩
  have hlast : plAt base (l ++ [bt]) (l ++ [bt]).length = ⟨bt.h.base + bt.h.cnt, (plAt base l l.length).byt + bt.sz, (plAt base l l.length).cnt + 1⟩ := by
    rw [plAt_full, hpf, endB_snoc, szs_append, szs_one, hbase, List.length_append]
    rfl
  rw [← hlast] at hsg
  have hok : allOK (l ++ [bt]) := fun x hx => by
    rcases List.mem_append.1 hx with h | h
    · exact hS.ok x h
    · rw [List.mem_singleton] at h; subst h; exact hb
  have hch : chain base (l ++ [bt]) := chain_append.2 ⟨hS.ch, hbase, trivial⟩
  refine ⟨rfl, ?_, haf⟩
  rcases hP' with h | ⟨h, hne⟩
  · refine ⟨o, K ++ [l.length], cnt', ⟨?_, hS.may, .inr hF', hch, hok, by rw [List.length_append]; exact hS.mks.add⟩, hvd, hcc⟩
    have e : (K ++ [l.length]).map (plAt base (l ++ [bt])) = P' := by
      rw [List.map_append, map_plAt base l [bt] K hKl, h]
      simp only [List.map_cons, List.map_nil]
      rw [plAt_append base l [bt] l.length (Nat.le_refl _)]
    rw [e]
    exact hsg
  · refine ⟨o, K, cnt', ⟨?_, hS.may, .inr hF', hch, hok, by rw [List.length_append]; exact hS.mks.same (fun e => hne (by rw [e]; rfl))⟩, hvd, hcc⟩
    rw [map_plAt base l [bt] K hKl, ← h]
    exact hsg
/-- Sync. -/
theorem sn_sync (w : World) (B Bd C s d base room cnt us : Nat) (nm : ByteArray) (F : List UInt8 → Option (List Nat × Nat)) (l : List BT) (K : List Nat) (hS : SN w B s d base nm F l K) (hD : V8.VD w Bd d room F cnt us) (hC : C ≤ Bd) (hCw : C ≤ w.heap.size) :
    Calls Tryz.prog 27 #[.pointer (some ⟨s, 0, none⟩)] w fun e w' => e = .returned (.int .i64 0) ∧ (∃ o, SN w' B s d base nm (V8.upd F nm.data.toList o) l K ∧ V8.VD w' Bd d room (V8.upd F nm.data.toList o) cnt us) ∧ AF C s w w' := by
  rcases hS.file with ⟨h0, h1⟩ | ⟨y, hy⟩
  · refine (ssync_gen w B Bd s d base room cnt us cnt us nm F F _ _ 3 (.inl rfl) hS.sg hD (fun W hW => (V8.sync_none W Bd d room cnt us F hW nm hS.may h1).mono fun e w' ⟨a, b⟩ => ⟨a, by rw [b]; exact hW, by rw [b]; exact V8.VF.refl _ _⟩)).mono ?_
    rintro e w' ⟨rfl, hvd, hvf⟩
    have hsg := (hS.sg.below (belD w)).vf hvf
    have hu : V8.upd F nm.data.toList none = F := by
      funext t
      unfold V8.upd
      split
      · rename_i h; rw [h, h1]
      · rfl
    exact ⟨rfl, ⟨none, by rw [hu]; exact hS.keep hsg rfl, by rw [hu]; exact hvd⟩, (AF.of (belD w) hCw hS.sg.lt).trans (AF.vf hvf hC (hS.sg.below (belD w)))⟩
  · refine (ssync_gen w B Bd s d base room cnt us cnt us nm F _ _ _ 0 (.inr rfl) hS.sg hD (fun W hW => V8.sync_some W Bd d room cnt us F hW nm hS.may _ y hy)).mono ?_
    rintro e w' ⟨rfl, hvd, hvf⟩
    have hsg := (hS.sg.below (belD w)).vf hvf
    exact ⟨rfl, ⟨_, ⟨hsg, hS.may, .inr ⟨_, if_pos rfl⟩, hS.ch, hS.ok, hS.mks⟩, hvd⟩, (AF.of (belD w) hCw hS.sg.lt).trans (AF.vf hvf hC (hS.sg.below (belD w)))⟩
end Go.Proofs.YtogmfdgpnkbpaaaGreatDoor
namespace Go.Proofs.YtogmfdgpnkbpaaaGreatDoor
open Go.RowKit
set_option linter.unusedVariables false
set_option maxRecDepth 20000
set_option maxRecDepth 20000

theorem SN.cut {w : World} {B s d base : Nat} {nm : ByteArray} {F : List UInt8 → Option (List Nat × Nat)} {l : List BT} {K : List Nat} (hm : V8.May nm) (hch : chain base l) (ho : allOK l) (hK : Marks l.length K) (i m y : Nat) (hi : i ≤ l.length) (hm1 : m ≤ K.length) (hsg : SG w B s d nm base ((K.map (plAt base l)).take m) (plAt base l i))
    (hall : ∀ j p, m ≤ j → (K.map (plAt base l))[j]? = some p → (plAt base l i).byt ≤ p.byt) (hlast : m = 0 ∨ ∃ p, (K.map (plAt base l))[m - 1]? = some p ∧ p.byt < (plAt base l i).byt) :
    SN w B s d base nm (V8.upd F nm.data.toList (some (((allB l).map UInt8.toNat).take (plAt base l i).byt, y))) (l.take i) (K.take m) := by
  obtain ⟨h1, h2, h3, h4⟩ := cut_list ho hK i m hi hm1 hall hlast
  refine ⟨by rw [← h1, ← h3]; exact hsg, hm, .inr ⟨y, ?_⟩, ?_, fun b hb => ho b (List.take_subset _ _ hb), h2⟩
  · rw [← h4, List.map_take]
    exact if_pos rfl
  · rw [← List.take_append_drop i l] at hch
    exact (chain_append.1 hch).1
/-- Cut at a batch's base, or at the end. -/
theorem sn_cut (w : World) (B Bd C s d base room cnt us : Nat) (nm : ByteArray) (F : List UInt8 → Option (List Nat × Nat)) (l : List BT) (K : List Nat) (hS : SN w B s d base nm F l K) (hD : V8.VD w Bd d room F cnt us) (hT : TabF w) (i : Nat) (hi : i ≤ l.length) (hCB : C ≤ B) (hCd : C ≤ Bd) (hBw : B ≤ w.heap.size) (hl1 : l.length ≤ 1073741824) :
    Calls Tryz.prog 28 #[.pointer (some ⟨s, 0, none⟩), .int .i64 ((plAt base l i).off : Nat)] w fun e w' => e = .returned (.int .i64 0) ∧ (∃ o K', SN w' B s d base nm (V8.upd F nm.data.toList o) (l.take i) K' ∧ V8.VD w' Bd d room (V8.upd F nm.data.toList o) cnt (us - (szs l - szs (l.take i)))) ∧ AF C s w w' := by
  have hKl : K.length ≤ 1073741824 := Nat.le_trans hS.mks.len_le hl1
  by_cases hl : l = []
  · subst hl
    have hi0 : i = 0 := by simpa using hi
    subst hi0
    have hK0 : K = [] := by
      have := hS.mks.len_le
      exact List.length_eq_zero_iff.1 (by simpa using this)
    subst hK0
    have hsz : us - (szs [] - szs (([] : List BT).take 0)) = us := by simp
    rw [hsz, plAt_zero]
    have hsg := hS.sg
    rw [List.length_nil, plAt_zero] at hsg
    rcases hS.file with ⟨_, h1⟩ | ⟨y, hy⟩
    · have hu : V8.upd F nm.data.toList none = F := by
        funext t
        unfold V8.upd
        split
        · rename_i h; rw [h, h1]
        · rfl
      refine (scut_empty w B Bd C s d base room cnt us base 0 0 nm F hsg hD 3 us F (.inr rfl) (fun W hW => (V8.cut_none W Bd d room cnt us F hW nm hS.may h1 0).mono fun e w' ⟨a, b⟩ => ⟨a, by rw [b]; exact hW, by rw [b]; exact V8.VF.refl _ _⟩) hCB hCd hBw).mono ?_
      rintro e w' ⟨rfl, hsg', hvd, haf⟩
      exact ⟨rfl, ⟨none, [], by rw [hu]; exact hS.keep (by rw [List.length_nil, plAt_zero]; exact hsg') rfl, by rw [hu]; exact hvd⟩, haf⟩
    · have hy' : F nm.data.toList = some ([], y) := hy
      refine (scut_empty w B Bd C s d base room cnt us base 0 0 nm F hsg hD 0 us (V8.upd F nm.data.toList (some ([], 0))) (.inl rfl) (fun W hW => V8.cut_some W Bd d room cnt us F hW nm hS.may [] y hy' 0 (Nat.le_refl _)) hCB hCd hBw).mono ?_
      rintro e w' ⟨rfl, hsg', hvd, haf⟩
      exact ⟨rfl, ⟨_, [], ⟨by show SG w' B s d nm base [] (plAt base [] 0); rw [plAt_zero]; exact hsg', hS.may, .inr ⟨0, if_pos rfl⟩, trivial, (fun b hb => by cases hb), hS.mks⟩, hvd⟩, haf⟩
  · have hl0 : 0 < l.length := List.length_pos_iff.2 hl
    obtain ⟨y, hy⟩ : FileOf F nm l := by
      rcases hS.file with ⟨h, _⟩ | h
      · exact absurd h hl
      · exact h
    have hsz : szs (l.take i) = (plAt base l i).byt := rfl
    rw [hsz]
    rcases Nat.lt_or_eq_of_le hi with hlt | rfl
    · refine (scut_mid w B Bd C s d base room cnt us nm F l K y hS.sg hD hS.may hy hS.ch hS.ok hS.mks hT i hlt hCB hCd hBw hKl).mono ?_
      rintro e w' ⟨rfl, ⟨m, hm1, hsg, hm2, hm3⟩, hvd, haf⟩
      rw [List.length_map] at hm1
      exact ⟨rfl, ⟨_, _, SN.cut hS.may hS.ch hS.ok hS.mks i m _ hi hm1 hsg hm2 hm3, hvd⟩, haf⟩
    · refine (scut_end w B Bd C s d base room cnt us nm F l K y hS.sg hD hS.may hy hS.ch hS.ok hS.mks hT hl hCB hCd hBw hKl).mono ?_
      rintro e w' ⟨rfl, ⟨m, hm1, hsg, hm2, hm3⟩, hvd, haf⟩
      rw [List.length_map] at hm1
      exact ⟨rfl, ⟨_, _, SN.cut hS.may hS.ch hS.ok hS.mks l.length m _ hi hm1 hsg hm2 hm3, hvd⟩, haf⟩
end Go.Proofs.YtogmfdgpnkbpaaaGreatDoor
namespace Go.Proofs.YtogmfdgpnkbpaaaGreatDoor
open Go.RowKit
set_option linter.unusedVariables false
set_option maxRecDepth 20000
set_option maxRecDepth 20000

/-- Two segments share neither block nor row. -/
def Apart (w : World) (s t : Nat) : Prop := s ≠ t ∧ ∀ j, rowOf w t = some j → rowOf w s ≠ some j
theorem Apart.symm {w : World} {s t : Nat} (h : Apart w s t) : Apart w t s := ⟨h.1.symm, fun j e e' => h.2 j e' e⟩
/-- A block that a segment's call leaves as it is. -/
theorem AF.block {C s B d base : Nat} {w w' : World} {nm : ByteArray} {P : List Pl} {bh : Pl} (hf : AF C s w w') (hs : SG w B s d nm base P bh) {i : Nat} {cs : Array Value} {t : TypeId} {m : Nat × Nat} (hi : w.heap[i]? = some (Obj.cells cs t m)) (h1 : t ≠ 106) (h2 : t ≠ 128) (h3 : t ≠ 5) (h4 : t ≠ 82) (h5 : i ≠ s) : w'.heap[i]? = w.heap[i]? := by
  refine hf.kept i cs t m hi h1 h2 h3 h5 (fun hr => ?_)
  obtain ⟨_, cs', e⟩ := hs.rowT hr
  rw [hi] at e
  cases e
  exact h4 rfl
theorem SG.other {C s t B B' d d' base base' : Nat} {w w' : World} {nm nm' : ByteArray} {P P' : List Pl} {bh bh' : Pl} (h : SG w B' t d' nm' base' P' bh') (hf : AF C s w w') (hs : SG w B s d nm base P bh) (ha : Apart w s t) : SG w' B' t d' nm' base' P' bh' ∧ rowOf w' t = rowOf w t := by
  obtain ⟨pv, h1, h2⟩ := h.blk
  have hb : w'.heap[t]? = w.heap[t]? := hf.block hs h1 (by decide) (by decide) (by decide) (by decide) (fun e => ha.1 e.symm)
  have hr : rowOf w' t = rowOf w t := by simp [rowOf, World.cell?, hb]
  refine ⟨⟨⟨pv, hb.trans h1, ?_⟩, h.hB⟩, hr⟩
  refine ⟨h2.1, ?_⟩
  rcases h2.2 with e | ⟨g, cap, cur, e1, e2, e3, e4⟩
  · exact .inl e
  · have hg : rowOf w t = some g := by subst e1; simp [rowOf, World.cell?, h1, Value.ownBlock]
    exact .inr ⟨g, cap, cur, e1, e2, (hf.kept g _ _ _ e3 (by decide) (by decide) (by decide) (fun e => by subst e; obtain ⟨_, h3, _⟩ := hs.blk; rw [h3] at e3; cases e3) (ha.2 g hg)).trans e3, e4⟩
theorem Apart.over {C s t B B' d d' base base' : Nat} {w w' : World} {nm nm' : ByteArray} {P P' : List Pl} {bh bh' : Pl} (h : SG w B' t d' nm' base' P' bh') (hf : AF C s w w') (hs : SG w B s d nm base P bh) (ha : Apart w s t) : Apart w' s t := by
  obtain ⟨_, hr⟩ := h.other hf hs ha
  refine ⟨ha.1, fun j e e' => ?_⟩
  rw [hr] at e
  obtain ⟨hB, cs, hj⟩ := h.rowT e
  rcases hf.row with r | r
  · rw [r] at e'
    exact ha.2 j e e'
  · have := r j e'
    have := lt_of_block hj
    omega
/-- Another segment, whose name is another, over a segment's call. -/
theorem SN.other {C s t B B' d d' base base' : Nat} {w w' : World} {nm nm' : ByteArray} {F : List UInt8 → Option (List Nat × Nat)} {l : List BT} {K : List Nat} {P : List Pl} {bh : Pl} {o : Option (List Nat × Nat)} (h : SN w B' t d' base' nm' F l K) (hf : AF C s w w') (hs : SG w B s d nm base P bh) (ha : Apart w s t) (hn : nm'.data.toList ≠ nm.data.toList) : SN w' B' t d' base' nm' (V8.upd F nm.data.toList o) l K :=
  h.keep (h.sg.other hf hs ha).1 (if_neg hn)
/-- The disk is full. -/
theorem sn_disk (w : World) (B Bd s d base room cnt us : Nat) (nm : ByteArray) (F : List UInt8 → Option (List Nat × Nat)) (l : List BT) (K : List Nat) (bt : BT) (hS : SN w B s d base nm F l K) (hD : V8.VD w Bd d room F cnt us) (hb : bt.ok) (hbase : bt.h.base = endB base l) (hT : TabF w) (hcn : cnt < 256) (hr : room < us + bt.sz) :
    Calls Tryz.prog 25 #[.pointer (some ⟨s, 0, none⟩), .string bt.s] w fun e w' => e = .returned (.int .i64 80) ∧ Below w.heap.size w w' := by
  refine sappend_disk w B Bd s d base room cnt us nm F _ _ bt hS.sg hD hb hT (by rw [plAt_full]; exact hbase) (fun W hW => ?_)
  rcases hS.file with ⟨h0, h1⟩ | ⟨y, hy⟩
  · exact V8.append_disk_none W Bd d room cnt us F hW nm bt.s hS.may h1 hcn (by rw [bt.size]; exact hr)
  · exact V8.append_disk_some W Bd d room cnt us F hW nm bt.s hS.may _ y hy (by rw [bt.size]; exact hr)
end Go.Proofs.YtogmfdgpnkbpaaaGreatDoor
