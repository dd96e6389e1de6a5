/- Layer 8: Used, Size, Synced, Sync. -/
/- Layer 8: a disk told by what its files hold; Size, Synced, Sync, Used. -/
import Derived.Test.YtcjlcieheepegaaGreatDoorV02
import Derived.Sort.KeysCollected
namespace Go.Proofs.YtcjlcieheepegaaGreatDoor.V8
open Go.RowKit Go.Maps
set_option linter.unusedVariables false
set_option maxRecDepth 20000
set_option maxRecDepth 20000

/-- The bytes of the files that have come. -/
def sumDone (M : List FR) (left : Lit → Bool) : Nat := used (M.filter fun m => !left (.string m.name))
theorem used_append (A C : List FR) : used (A ++ C) = used A + used C := by simp [used]
theorem sumDone_le : ∀ (M : List FR) (left : Lit → Bool), sumDone M left ≤ used M
  | [], _ => Nat.le_refl _
  | m :: C, left => by
    have ih := sumDone_le C left
    unfold sumDone at *
    rw [List.filter_cons, used_cons]
    split
    · rw [used_cons]; omega
    · omega
theorem sumDone_start {M : List FR} {left : Lit → Bool} (h : ∀ m ∈ M, left (.string m.name) = true) : sumDone M left = 0 := by
  unfold sumDone
  rw [List.filter_eq_nil_iff.2 (fun m hm => by simp [h m hm])]; rfl
theorem sumDone_end {M : List FR} {left : Lit → Bool} (h : ∀ kl, left kl = false) : sumDone M left = used M := by
  unfold sumDone
  rw [List.filter_eq_self.2 (fun m hm => by simp [h])]
theorem sumDone_step {M : List FR} (hM : M.Pairwise Apart) {m : FR} (hm : m ∈ M) {left : Lit → Bool} (hl : left (.string m.name) = true) :
    sumDone M (fun z => left z && !z.sameKey (.string m.name)) = sumDone M left + m.l.length := by
  obtain ⟨A, C, rfl⟩ := List.append_of_mem hm
  obtain ⟨_, h2⟩ := apart_split hM
  have e : ∀ L : List FR, (∀ x ∈ L, x ∈ A ++ C) → (L.filter fun x : FR => !(left (.string x.name) && !(Lit.string x.name).sameKey (.string m.name))) = L.filter fun x : FR => !left (.string x.name) := fun L hL => List.filter_congr fun x hx => by
    have := (h2 x (hL x hx)).1
    simp [sameStr, this]
  have e1 := e A (fun x hx => by simp [hx])
  have e2 := e C (fun x hx => by simp [hx])
  unfold sumDone
  rw [List.filter_append, List.filter_append, List.filter_cons, List.filter_cons, e1, e2]
  simp only [hl, sameStr, decide_true, Bool.not_true, Bool.and_false, Bool.not_false, if_true, Bool.false_eq_true, if_false]
  rw [used_append, used_append, used_cons]; omega
theorem has_M {es : List (Lit × DataW Unit)} {M : List FR} (hp : es.Perm (M.map FR.ent)) (hM : M.Pairwise Apart) : ∀ m ∈ M, Maps.has (.map es) (.string m.name) = true := fun m hm => by
  refine Maps.has_true_of_atKey (y := .lit (.int .i64 (m.blk : Nat))) (fun z => ?_)
  rw [atKey_M hp hM, findF_of hM hm]

section
variable (w : World) {ops : Array Oper} {rest : List Oper} {o : Oper} {a : Act} {Q : Exit → Act → World → Prop}
/-- The step of a loop over a disk's files. -/
theorem wpList_next_files (hg : o.guard = none) (it : Operand) (hop : o.op = Op.next it false) (b r n : Nat) (es : List (Lit × DataW Unit)) (M : List FR) (hp : es.Perm (M.map FR.ent)) (hM : M.Pairwise Apart) (left : Lit → Bool) (cnt : Nat)
    (hit : a.eval it = .pointer (some ⟨r, 0, none⟩)) (h : w.ranges Tryz.prog 9 pE b r n (.map es) left cnt)
    (hDone : cnt = 0 → (∀ kl, left kl = false) → wpList Tryz.prog ops Q rest (a.put o.dst (.tuple #[.bool false])) w)
    (hMore : ∀ (m : FR) (w' : World) (cnt' : Nat), m ∈ M → left (.string m.name) = true → w'.ranges Tryz.prog 9 pE b r n (.map es) (fun z => left z && !z.sameKey (.string m.name)) cnt' → cnt' < cnt →
      w.grownBy w' (some r) → w'.heap.size = w.heap.size → (Instr.entry (.pointer (some ⟨r, 0, none⟩))).run Tryz.prog w' = .ok (.tuple #[.string ⟨m.name.toArray⟩, .pointer (some ⟨m.blk, 0, none⟩)]) w' → wpList Tryz.prog ops Q rest (a.put o.dst (.tuple #[.bool true, .string ⟨m.name.toArray⟩, .pointer (some ⟨m.blk, 0, none⟩)])) w') :
    wpList Tryz.prog ops Q (o :: rest) a w := by
  refine wpList_plain hg fun K' hK' => ?_
  unfold Oper.wp
  rcases h.next law9 o.type with ⟨h0, hl, hrun⟩ | ⟨key, v, kl, y, w', cnt', hkey, hlk, hv, hat, hrun, hrg, hlt, hgr, hsz, hen⟩
  · simp [execOp, hop, hit, hrun, Result.andThen]
    exact hK' _ _ (hDone h0 hl)
  · obtain ⟨x, rfl, rfl, _⟩ := Maps.keyOf_str Tryz.underlying9 hkey
    have hat' : ∀ zd, (match findF M x with | some m => .lit (.int .i64 (m.blk : Nat)) | none => zd) = y.1 := fun zd => by
      have h1 := hat zd
      rw [atKey_M hp hM] at h1
      exact h1
    cases hf : findF M x with
    | none =>
      rw [hf] at hat'
      have e1 := hat' .nil
      have e2 := hat' (.lit (.bool true))
      simp only at e1 e2
      rw [← e1] at e2; cases e2
    | some m =>
      rw [hf] at hat'
      obtain ⟨hm, rfl⟩ := findF_some hf
      have e1 := hat' .nil
      simp only at e1
      rcases pE_inv hv with ⟨rfl, e⟩ | ⟨c, rfl, e⟩
      · rw [e] at e1; simp at e1
      · rw [e] at e1
        have : c = m.blk := by simp at e1; omega
        subst this
        simp [execOp, hop, hit, hrun, Result.andThen]
        exact hK' _ _ (hMore m w' cnt' hm hlk hrg hlt hgr hsz hen)
end
theorem belowRow {B r : Nat} {w w' wr : World} (h : Below B w wr) (hB : B ≤ r) (hg : wr.grownBy w' (some r)) (hs : B ≤ wr.heap.size) : Below B w w' :=
  h.trans ⟨hg.os, hg.tape, hg.output, hg.size, fun k hk => hg.block k (by omega) (fun e => by
    have e' : k = r := by simpa using e
    omega)⟩
set_option maxHeartbeats 1000000 in
theorem used_ok (w : World) (B d room bm : Nat) (M : List FR) (h : VM w B d room bm M) :
    Calls Tryz.prog 54 #[.pointer (some ⟨d, 0, none⟩)] w fun e w' => e = .returned (.int .i64 (used M : Nat)) ∧ Below w.heap.size w w' := by
  obtain ⟨c0, c1, c2⟩ := h.cells
  obtain ⟨es, hD, hp⟩ := h.own
  have HV : Hid (VM w B d room bm M) := h
  have HP : Hid (es.Perm (M.map FR.ent)) := hp
  have HA : Hid (M.Pairwise Apart) := h.apart
  have HU : Hid (used M ≤ 16777216) := Nat.le_trans h.hused h.hroom
  have HG : Hid (∀ _ : Unit, Calls Tryz.prog 63 #[.pointer (some ⟨d, 0, none⟩)] w fun e w' => e = .returned (.bool true) ∧ w' = w) := fun _ => given_ok w d c0
  have hn := h.hcnt
  clear h hp
  go_enter Tryz.func54, Tryz.ntmps54
  go_wp2_with fail
  refine (HG.out ()).mono ?_
  rintro e W ⟨rfl, hW⟩
  obtain rfl := hW.symm
  go_wp2_with (first
    | (at_range; refine wpList_range_own _ rfl _ 77 rfl 9 101 law9 Tryz.underlying77 _ bm _ _ rfl hD ?_; intro w0 hrg0 hg0 hs0))
  go_frame
  obtain ⟨R, hR⟩ : ∃ R, w.heap.size = R := ⟨_, rfl⟩
  rw [hR] at hrg0 hs0 ⊢
  have HR : Hid (w.heap.size = R) := hR
  have HB0 : Hid (Below R w w0) := ⟨hg0.os, hg0.tape, hg0.output, hg0.size, fun k hk => hg0.block k (by omega) (by simp)⟩
  clear hg0 hs0 hR
  go_loopw [3] (fun v wr => ∃ (k : Nat), v = .int .i64 (k : Nat) ∧ k ≤ 16777216 ∧ Hid (∃ left cnt, wr.ranges Tryz.prog 9 pE bm R M.length (.map es) left cnt ∧ Below R w wr ∧ k = sumDone M left)) (fun _ wr => wr.rangeLeft bm R)
  case atStart => exact ⟨0, rfl, by omega, _, _, hrg0, HB0.out, (sumDone_start (has_M HP.out HA.out)).symm⟩
  case round =>
    obtain ⟨k, rfl, hk, HK⟩ := hrel
    obtain ⟨left, cnt, hrg, hbl, hsum⟩ := HK.out
    have HB1 : Hid (Below R w wr ∧ k = sumDone M left) := ⟨hbl, hsum⟩
    clear hbl hsum
    go_wp2_with (first
      | (at_next; refine wpList_next_files _ rfl _ rfl bm R M.length es M HP.out HA.out left cnt rfl hrg ?_ ?_))
    · intro hc0 hl0
      go_wp2
      go_ret
      obtain ⟨h1, h2⟩ := HB1.out
      rw [HR.out]
      refine ⟨?_, h1⟩
      show Ending.returned (.int .i64 (k : Nat)) = _
      rw [h2, sumDone_end hl0]
    · intro m w1 cnt1 hm hlk hrg1 hlt hg1 hs1 hen
      have hF := HV.out.each m hm
      have hb1 : Below R w w1 := belowRow HB1.out.1 (Nat.le_refl _) hg1 (by rw [← HR.out]; exact HB1.out.1.size)
      have hcell : w1.cell? ⟨m.blk, 0, none⟩ = some m.v := by
        have := hF.blk
        rw [← hb1.block m.blk (by rw [← HR.out]; exact hF.lt.1)] at this
        simp [World.cell?, this]
      obtain ⟨ao, cp, hv⟩ := hF.form
      have hle : k + m.l.length ≤ used M := by
        have h1 := sumDone_step HA.out hm hlk
        have h2 := sumDone_le M (fun z => left z && !z.sameKey (.string m.name))
        have h3 := HB1.out.2
        omega
      have HN : Hid (Below R w w1 ∧ k + m.l.length = sumDone M (fun z => left z && !z.sameKey (.string m.name))) := ⟨hb1, by rw [sumDone_step HA.out hm hlk, ← HB1.out.2]⟩
      have hkl : k + m.l.length ≤ 16777216 := Nat.le_trans hle HU.out
      have HRG : Hid (w1.ranges Tryz.prog 9 pE bm R M.length (.map es) (fun z => left z && !z.sameKey (.string m.name)) cnt1 ∧ wr.ranges Tryz.prog 9 pE bm R M.length (.map es) left cnt ∧ cnt1 < cnt) := ⟨hrg1, hrg, hlt⟩
      obtain ⟨q, hq⟩ : ∃ q, m.blk = q := ⟨_, rfl⟩
      obtain ⟨nn, hnn⟩ : ∃ q, m.name = q := ⟨_, rfl⟩
      obtain ⟨L, hL⟩ : ∃ q, m.l.length = q := ⟨_, rfl⟩
      rw [hq, hnn] at hen ⊢
      rw [hq, hv, hL] at hcell
      rw [hL] at hkl HN
      rw [hnn] at HN HRG
      have hw : wrap64 ((k : Int) + (L : Int)) = ((k + L : Nat) : Int) := by rw [← Int.natCast_add]; exact wrapN64 (k + L) (by omega)
      clear hF hb1 hv hle hrg1 hrg hlt hg1 hs1 hq hnn hL hlk hm
      go_wp2
      obtain ⟨h1, h2⟩ := HN.out
      obtain ⟨r1, r2, r3⟩ := HRG.out
      refine ⟨⟨k + L, ?_, hkl, _, _, r1, h1, h2⟩, ?_⟩
      · rw [Int.natCast_add]
      · rw [r1.left_eq, r2.left_eq]; exact r3
end Go.Proofs.YtcjlcieheepegaaGreatDoor.V8
namespace Go.Proofs.YtcjlcieheepegaaGreatDoor.V8
open Go.RowKit Go.Maps
set_option linter.unusedVariables false
set_option maxRecDepth 20000
set_option maxRecDepth 20000

/-- A disk lies in memory: what its files hold, how many there are, how many bytes they have. -/
def VD (w : World) (B d room : Nat) (F : List UInt8 → Option (List Nat × Nat)) (cnt us : Nat) : Prop := ∃ bm M, VM w B d room bm M ∧ (∀ t, look M t = F t) ∧ M.length = cnt ∧ used M = us
def upd (F : List UInt8 → Option (List Nat × Nat)) (s : List UInt8) (x : Option (List Nat × Nat)) : List UInt8 → Option (List Nat × Nat) := fun t => if t = s then x else F t
theorem VD.below {w w' : World} {B d room cnt us : Nat} {F : List UInt8 → Option (List Nat × Nat)} (h : VD w B d room F cnt us) (hb : Below w.heap.size w w') : VD w' B d room F cnt us := by
  obtain ⟨bm, M, h1, h2⟩ := h
  exact ⟨bm, M, h1.below hb, h2⟩
theorem VD.base {w : World} {B d room cnt us : Nat} {F : List UInt8 → Option (List Nat × Nat)} (h : VD w B d room F cnt us) : B ≤ w.heap.size := by
  obtain ⟨bm, M, h1, h2⟩ := h
  exact h1.base
theorem VD.bounds {w : World} {B d room cnt us : Nat} {F : List UInt8 → Option (List Nat × Nat)} (h : VD w B d room F cnt us) : us ≤ room ∧ room ≤ 16777216 ∧ cnt ≤ 256 := by
  obtain ⟨bm, M, h1, h2, h3, h4⟩ := h
  exact ⟨h4 ▸ h1.hused, h1.hroom, h3 ▸ h1.hcnt⟩
theorem VD.some_ {w : World} {B d room cnt us : Nat} {F : List UInt8 → Option (List Nat × Nat)} (h : VD w B d room F cnt us) {s : List UInt8} {l : List Nat} {n : Nat} (hs : F s = some (l, n)) : l.length ≤ us ∧ n ≤ l.length ∧ Bytes l ∧ 1 ≤ cnt := by
  obtain ⟨bm, M, h1, h2, h3, h4⟩ := h
  obtain ⟨m, hm, e⟩ := look_some ((h2 s).trans hs)
  cases e
  obtain ⟨hm1, _⟩ := findF_some hm
  have hF := h1.each m hm1
  refine ⟨h4 ▸ used_mem hm1, hF.le, hF.bytes, ?_⟩
  rw [← h3]
  exact List.length_pos_of_mem hm1
theorem used_call (w : World) (B d room cnt us : Nat) (F : List UInt8 → Option (List Nat × Nat)) (h : VD w B d room F cnt us) :
    Calls Tryz.prog 54 #[.pointer (some ⟨d, 0, none⟩)] w fun e w' => e = .returned (.int .i64 (us : Nat)) ∧ Below w.heap.size w w' := by
  obtain ⟨bm, M, h1, h2, h3, rfl⟩ := h
  exact used_ok w B d room bm M h1
set_option maxHeartbeats 1000000 in
theorem size_none (w : World) (B d room cnt us : Nat) (F : List UInt8 → Option (List Nat × Nat)) (h : VD w B d room F cnt us) (s : ByteArray) (hm : May s) (hs : F s.data.toList = none) :
    Calls Tryz.prog 85 #[.pointer (some ⟨d, 0, none⟩), .string s] w fun e w' => e = .returned (.int .i64 (-1)) ∧ w' = w := by
  obtain ⟨bm, M, h1, h2, h3, h4⟩ := h
  have HF : Hid (∀ _ : Unit, Calls Tryz.prog 53 #[.pointer (some ⟨d, 0, none⟩), .string s] w fun e w' => e = .returned (.tuple #[.pointer none, .int .i64 3]) ∧ w' = w) := fun _ => find_none w B d room bm M h1 s hm (look_none ((h2 _).trans hs))
  clear h1 h2 h3 h4 hs hm
  go_enter Tryz.func85, Tryz.ntmps85
  go_wp2_with fail
  refine (HF.out ()).mono ?_
  rintro e W ⟨rfl, hW⟩
  obtain rfl := hW.symm
  go_wp2
  go_ret
  exact ⟨rfl, rfl⟩
set_option maxHeartbeats 1000000 in
theorem size_some (w : World) (B d room cnt us : Nat) (F : List UInt8 → Option (List Nat × Nat)) (h : VD w B d room F cnt us) (s : ByteArray) (hm : May s) (l : List Nat) (n : Nat) (hs : F s.data.toList = some (l, n)) :
    Calls Tryz.prog 85 #[.pointer (some ⟨d, 0, none⟩), .string s] w fun e w' => e = .returned (.int .i64 (l.length : Nat)) ∧ w' = w := by
  obtain ⟨bm, M, h1, h2, h3, h4⟩ := h
  obtain ⟨m, hf, e⟩ := look_some ((h2 _).trans hs)
  cases e
  have HF : Hid (∀ _ : Unit, Calls Tryz.prog 53 #[.pointer (some ⟨d, 0, none⟩), .string s] w fun e w' => e = .returned (.tuple #[.pointer (some ⟨m.blk, 0, none⟩), .int .i64 0]) ∧ w' = w) := fun _ => find_some w B d room bm M h1 s hm m hf
  have hK := h1.each m (findF_some hf).1
  obtain ⟨ao, cp, hv⟩ := hK.form
  have c0 := hK.cells.1
  obtain ⟨q, hq⟩ : ∃ q, m.blk = q := ⟨_, rfl⟩
  obtain ⟨L, hL⟩ : ∃ q, m.l.length = q := ⟨_, rfl⟩
  rw [hq] at HF c0
  rw [hv, hL] at c0
  rw [hL]
  clear h1 h2 h3 h4 hs hm hf hK hv hL hq
  go_enter Tryz.func85, Tryz.ntmps85
  go_wp2_with fail
  refine (HF.out ()).mono ?_
  rintro e W ⟨rfl, hW⟩
  obtain rfl := hW.symm
  go_wp2
  go_ret
  exact ⟨rfl, rfl⟩
/-- A file has turned: what the disk holds then. -/
theorem VD.turned {w w' : World} {B d room bm : Nat} {M : List FR} {m : FR} (h : VM w B d room bm M) (hm : m ∈ M) (m' : FR) (hn : m'.name = m.name) (hb : m'.blk = m.blk) (hk : ∀ i, i < w.heap.size → i ≠ m.blk → m.v.ownBlock ≠ some i → w'.heap[i]? = w.heap[i]?)
    (hF : FOK w' B m') (hnew : ∀ g, m'.v.ownBlock = some g → m.v.ownBlock = some g ∨ w.heap.size ≤ g) (us' : Nat) (hus : us' + m.l.length = used M + m'.l.length) (hu : us' ≤ room) {F : List UInt8 → Option (List Nat × Nat)} (hl : ∀ t, look M t = F t) : VD w' B d room (upd F m.name (some (m'.l, m'.n))) M.length us' := by
  obtain ⟨A, C, rfl⟩ := List.append_of_mem hm
  have hu' : used (A ++ m' :: C) = us' := by rw [used_split] at hus ⊢; omega
  have h' := h.turned hn hb hk hF hnew (hu'.symm ▸ hu)
  refine ⟨bm, A ++ m' :: C, h', fun t => ?_, by simp, hu'⟩
  rw [look_split h'.apart, hn]
  unfold upd
  by_cases e : t = m.name
  · simp [e]
  · rw [if_neg e, if_neg e, ← hl, look_split h.apart, if_neg e]
theorem FOK.synced {w : World} {B : Nat} {m : FR} (h : FOK w B m) : FOK (w.setCell ⟨m.blk, 1, none⟩ (.int .i64 (m.l.length : Nat))) B { m with n := m.l.length } :=
  ⟨block_setCell (i := 1) h.blk, ownsRow_set h.own h.blk (by decide), h.bytes, Nat.le_refl _, h.hB⟩
set_option maxHeartbeats 1000000 in
theorem sync_some (w : World) (B d room cnt us : Nat) (F : List UInt8 → Option (List Nat × Nat)) (h : VD w B d room F cnt us) (s : ByteArray) (hm : May s) (l : List Nat) (n : Nat) (hs : F s.data.toList = some (l, n)) :
    Calls Tryz.prog 58 #[.pointer (some ⟨d, 0, none⟩), .string s] w fun e w' => e = .returned (.int .i64 0) ∧ VD w' B d room (upd F s.data.toList (some (l, l.length))) cnt us ∧ VF B w w' := by
  obtain ⟨bm, M, h1, h2, h3, h4⟩ := h
  obtain ⟨m, hf, e⟩ := look_some ((h2 _).trans hs)
  cases e
  have HF : Hid (∀ _ : Unit, Calls Tryz.prog 53 #[.pointer (some ⟨d, 0, none⟩), .string s] w fun e w' => e = .returned (.tuple #[.pointer (some ⟨m.blk, 0, none⟩), .int .i64 0]) ∧ w' = w) := fun _ => find_some w B d room bm M h1 s hm m hf
  obtain ⟨hm1, hm2⟩ := findF_some hf
  have hK := h1.each m hm1
  have HE : Hid (VD (w.setCell ⟨m.blk, 1, none⟩ (.int .i64 (m.l.length : Nat))) B d room (upd F s.data.toList (some (m.l, m.l.length))) cnt us ∧ VF B w (w.setCell ⟨m.blk, 1, none⟩ (.int .i64 (m.l.length : Nat)))) := by
    refine ⟨?_, VF.file hK.blk hK.hB _⟩
    have := VD.turned h1 hm1 { m with n := m.l.length } rfl rfl (fun i hi h1 _ => Below.heap_setCell _ _ _ _ h1) hK.synced (fun g hg => .inl hg) us (by simp; omega) (h4 ▸ h1.hused) h2
    rw [hm2, h3] at this
    exact this
  obtain ⟨ao, cp, hv⟩ := hK.form
  obtain ⟨c0, c1, f0, f1⟩ := hK.cells
  obtain ⟨q, hq⟩ : ∃ q, m.blk = q := ⟨_, rfl⟩
  obtain ⟨L, hL⟩ : ∃ q, m.l.length = q := ⟨_, rfl⟩
  rw [hq] at HF c0 f1 c1 HE
  rw [hv, hL] at c0
  rw [hL] at HE
  rw [hL]
  clear h1 h2 h3 h4 hs hm hf hK hv hL hq hm1 hm2 f0
  go_enter Tryz.func58, Tryz.ntmps58
  go_wp2_with fail
  refine (HF.out ()).mono ?_
  rintro e W ⟨rfl, hW⟩
  obtain rfl := hW.symm
  go_wp2
  go_ret
  exact ⟨rfl, HE.out⟩
end Go.Proofs.YtcjlcieheepegaaGreatDoor.V8
