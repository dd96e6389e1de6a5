/- Layer 8: how many names there are; Rename. -/
import Derived.Test.YtlnlhecjehapiaaQn
namespace Go.Proofs.Ytlnlhecjehapiaa
open Go.RowKit Go.Maps Go.Sort
set_option linter.unusedVariables false
set_option maxRecDepth 20000

theorem names_len (w : World) (B d room cnt us : Nat) (F : List UInt8 → Option (List Nat × Nat)) (h : VD w B d room F cnt us) (hc : 0 < cnt) (hs : ∀ t x, F t = some x → t.length ≤ 32) :
    Calls Try.prog 18 #[.pointer (some ⟨d, 0, none⟩)] w fun e w' => ∃ g cap, e = .returned (.slice (some ⟨g, 0, none⟩) cnt cap) ∧ Below w.heap.size w w' := by
  obtain ⟨bm, M, h1, h2, h3, h4⟩ := h
  refine (names_ok w B d room bm M h1 (fun e => by rw [e] at h3; simp at h3; omega) (fun m hm => ?_)).mono ?_
  · refine hs m.name (m.l, m.n) ?_
    rw [← h2]
    unfold look
    rw [findF_of h1.apart hm]; rfl
  · rintro e w' ⟨g, cap, ss, rfl, hp, _, hb⟩
    refine ⟨g, cap, ?_, hb⟩
    have := hp.length_eq
    rw [List.length_map, h3] at this
    rw [this]
/-- The file bears another name. -/
theorem rename_turn {w w1 : World} {B d room bm : Nat} {A C : List FR} {m : FR} (h : VM w B d room bm (A ++ m :: C)) (h1 : VM w1 B d room bm (A ++ C)) (hg : w.grownBy w1 (some bm)) (t : ByteArray) (ht : t.size ≤ 32) (hn : findF (A ++ C) t.data.toList = none) :
    Calls Try.prog 23 #[.pointer (some ⟨d, 0, none⟩), .string t, .pointer (some ⟨m.blk, 0, none⟩)] w1 fun e w' => e = .returned (.tuple #[]) ∧ VM w' B d room bm ({ m with name := t.data.toList } :: (A ++ C)) ∧ VF B w1 w' := by
  obtain ⟨es0, clock, hmb⟩ := h.mapBlk
  have hF := h.each m (by simp)
  obtain ⟨ap, apm⟩ := apart_split h.apart
  have hF1 : FOK w1 B m := by
    refine hF.block (hg.block _ hF.lt.1 ?_) (fun g hg' => hg.block g (hF.lt.2 g hg') ?_)
    · intro e; have e' : m.blk = bm := by simpa using e
      have h1 := hF.blk; rw [e', hmb] at h1; cases h1
    · intro e; have e' : g = bm := by simpa using e
      obtain ⟨cur, h1, _⟩ := hF.row hg'; rw [e', hmb] at h1; cases h1
  have hrm : rm (A ++ C) t.data.toList = A ++ C := rm_none hn
  have hu := h.hused
  have hc := h.hcnt
  rw [used_split] at hu
  rw [len_split] at hc
  have := put_ok w1 B d room bm (A ++ C) h1 t ht { m with name := t.data.toList } rfl ⟨hF1.blk, hF1.own, hF1.bytes, hF1.le, hF1.hB⟩ (fun x hx => by
    have hx1 : x ∈ A ++ C := (List.mem_filter.1 hx).1
    exact ⟨findF_none hn x hx1, (apm x hx1).2.1, (apm x hx1).2.2⟩) (by
      show used (_ :: rm (A ++ C) t.data.toList) ≤ room
      rw [hrm, used_cons]; exact hu) (by
      show (_ :: rm (A ++ C) t.data.toList).length ≤ 256
      rw [hrm, List.length_cons]; exact hc)
  rw [show rm (A ++ C) ({ m with name := t.data.toList } : FR).name = A ++ C from hrm] at this
  exact this
set_option maxHeartbeats 1000000 in
theorem rename_ok (w : World) (B d room cnt us : Nat) (F : List UInt8 → Option (List Nat × Nat)) (h : VD w B d room F cnt us) (s t : ByteArray) (hm : May s) (hmt : May t) (l : List Nat) (n : Nat) (hs : F s.data.toList = some (l, n)) (ht : F t.data.toList = none) :
    Calls Try.prog 16 #[.pointer (some ⟨d, 0, none⟩), .string s, .string t] w fun e w' => e = .returned (.int .i64 0) ∧ VD w' B d room (upd (upd F s.data.toList none) t.data.toList (some (l, n))) cnt us ∧ VF B w w' := by
  obtain ⟨bm, M, h1, h2, h3, h4⟩ := h
  obtain ⟨m, hf, e⟩ := look_some ((h2 _).trans hs)
  cases e
  have HF : Hid (∀ _ : Unit, Calls Try.prog 22 #[.pointer (some ⟨d, 0, none⟩), .string s] w fun e w' => e = .returned (.tuple #[.pointer (some ⟨m.blk, 0, none⟩), .int .i64 0]) ∧ w' = w) := fun _ => find_some w B d room bm M h1 s hm m hf
  have HM : Hid (∀ _ : Unit, Calls Try.prog 27 #[.string t] w (MayEnd t w)) := fun _ => mayBe_ok w t
  have HMt : Hid (May t) := hmt
  obtain ⟨hm1, hm2⟩ := findF_some hf
  obtain ⟨c0, c1, c2⟩ := h1.cells
  obtain ⟨A, C, rfl⟩ := List.append_of_mem hm1
  have hnt : findF (A ++ C) t.data.toList = none := by
    have := look_rm_split h1.apart t.data.toList
    rw [h2, ht] at this
    exact look_none (this.trans (by split <;> rfl))
  obtain ⟨w5, hrun, r2, r3, r4⟩ := h1.dropped s hm.2.1 hm2 0
  have HP : Hid (∀ _ : Unit, Calls Try.prog 23 #[.pointer (some ⟨d, 0, none⟩), .string t, .pointer (some ⟨m.blk, 0, none⟩)] w5 fun e w' => e = .returned (.tuple #[]) ∧ VM w' B d room bm ({ m with name := t.data.toList } :: (A ++ C)) ∧ VF B w5 w') := fun _ => rename_turn h1 r2 r4 t hmt.2.1 hnt
  have HE : Hid (∀ w', VM w' B d room bm ({ m with name := t.data.toList } :: (A ++ C)) → VF B w5 w' → VD w' B d room (upd (upd F s.data.toList none) t.data.toList (some (m.l, m.n))) cnt us ∧ VF B w w') := fun w' hv hw' => by
    refine ⟨⟨bm, _, hv, fun x => ?_, ?_, ?_⟩, r3.trans hw'⟩
    · have hsp := look_split (A := []) (C := A ++ C) (m := { m with name := t.data.toList }) hv.apart x
      simp only [List.nil_append] at hsp
      rw [hsp]
      unfold upd
      by_cases e1 : x = t.data.toList
      · rw [if_pos e1, if_pos e1]
      · rw [if_neg e1, if_neg e1, look_rm_split h1.apart, h2, hm2]
    · rw [← h3, len_split, List.length_cons]
    · rw [← h4, used_split, used_cons]
  have c5 := r2.cells.2.2
  obtain ⟨q, hq⟩ : ∃ q, m.blk = q := ⟨_, rfl⟩
  rw [hq] at HF HP HE
  clear h1 h2 h3 h4 hs hm hf hq hm1 hm2 hmt ht hnt r2 r3 r4
  go_enter Try.func16, Try.ntmps16
  go_wp2_with fail
  refine (HF.out ()).mono ?_
  rintro e W ⟨rfl, hW⟩
  obtain rfl := hW.symm
  clear hW
  go_wp2_with fail
  refine (HM.out ()).mono ?_
  rintro e W ⟨bb, rfl, hW, hbb⟩
  obtain rfl := hW.symm
  obtain rfl := hbb HMt.out
  clear hW
  go_wp2_with fail
  refine (HP.out ()).mono ?_
  rintro e w6 ⟨rfl, hv6, hf6⟩
  have H6 : Hid (VD w6 B d room (upd (upd F s.data.toList none) t.data.toList (some (m.l, m.n))) cnt us ∧ VF B w w6) := HE.out w6 hv6 hf6
  clear hv6 hf6
  go_wp2
  go_ret
  exact ⟨rfl, H6.out⟩

/-- The names of VdiskMany. -/
def ky (j : Nat) : ByteArray := toBA [102, 97 + j / 16, 97 + j % 16]
theorem ky_bytes (j : Nat) : bytesOf (ky j) = [102, (97 + j / 16) % 256, (97 + j % 16) % 256] := by simp [ky, bytesOf, toBA]
theorem ky_may (j : Nat) (h : j < 256) : May (ky j) := by
  refine mayD_ok ?_
  unfold mayD ky
  have h1 : (97 + j / 16) % 256 = 97 + j / 16 := by omega
  have h2 : (97 + j % 16) % 256 = 97 + j % 16 := by omega
  simp [toBA, ByteArray.size, h1, h2]
  omega
theorem ky_inj {i j : Nat} (hi : i < 256) (hj : j < 256) (h : (ky i).data.toList = (ky j).data.toList) : i = j := by
  have e : bytesOf (ky i) = bytesOf (ky j) := by unfold bytesOf; rw [h]
  rw [ky_bytes, ky_bytes] at e
  simp at e
  omega
theorem ky_len (j : Nat) : (ky j).data.toList.length = 3 := by simp [ky, toBA]
def mor : List UInt8 := [109, 111, 114, 101]
theorem ky_mor (j : Nat) : (ky j).data.toList ≠ mor := fun e => by have := congrArg List.length e; rw [ky_len] at this; simp [mor] at this
theorem May_more : May ⟨#[109, 111, 114, 101]⟩ := mayD_ok (by decide)
/-- The first i of the files are there, and one of them may hold more. -/
structure MSt (w : World) (B d : Nat) (i : Nat) (wr : World) : Prop where
  bel : Below B w wr
  st : ∃ F, VD wr B d 4096 F i 0 ∧ (∀ j, j < 256 → F (ky j).data.toList = if j < i then some ([], 0) else none) ∧ F mor = none ∧ ∀ t x, F t = some x → t.length ≤ 32
theorem many_append {w wr : World} {B d i : Nat} (h : MSt w B d i wr) (hi : i < 256) :
    Calls Try.prog 9 #[.pointer (some ⟨d, 0, none⟩), .string (ky i), .string ⟨#[]⟩] wr fun e w' => e = .returned (.int .i64 0) ∧ MSt w B d (i + 1) w' := by
  obtain ⟨F, h1, h2, h3, h4⟩ := h.st
  have hF : F (ky i).data.toList = none := by rw [h2 i hi]; simp
  refine (append_none wr B d 4096 i 0 F h1 (ky i) ⟨#[]⟩ (ky_may i hi) hF hi (by decide)).mono ?_
  rintro e w' ⟨rfl, h5, h6⟩
  refine ⟨rfl, h.bel.trans h6.below, upd F (ky i).data.toList (some ([], 0)), h5, fun j hj => ?_, ?_, fun t x ht => ?_⟩
  · unfold upd
    by_cases e : j = i
    · subst e; simp
    · rw [if_neg (fun e' => e (ky_inj hj hi e')), h2 j hj]
      by_cases hl : j < i
      · rw [if_pos hl, if_pos (by omega)]
      · rw [if_neg hl, if_neg (by omega)]
  · unfold upd
    rw [if_neg (fun e => ky_mor i e.symm)]; exact h3
  · unfold upd at ht
    by_cases e : t = (ky i).data.toList
    · rw [e, ky_len]; omega
    · rw [if_neg e] at ht; exact h4 t x ht
theorem MSt.below {w wr w' : World} {B d i : Nat} (h : MSt w B d i wr) (hb : Below wr.heap.size wr w') : MSt w B d i w' := by
  obtain ⟨F, h1, h2⟩ := h.st
  exact ⟨h.bel.trans ⟨hb.os, hb.tape, hb.output, hb.size, fun k hk => hb.block k (Nat.lt_of_lt_of_le hk h1.base)⟩, F, h1.below hb, h2⟩
end Go.Proofs.Ytlnlhecjehapiaa
