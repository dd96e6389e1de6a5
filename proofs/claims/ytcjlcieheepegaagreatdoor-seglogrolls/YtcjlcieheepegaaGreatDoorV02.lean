/- Layer 8: bytes of a text, rows of bytes. -/
/- Layer 8: a disk's files as a list; what a disk's memory holds. -/
/- Layer 8: names that may be, a disk that was given, a file that is found. -/
import Derived.Test.YtcjlcieheepegaaGreatDoorChecked
import Derived.Tactics2
import Derived.WalkKit
import Derived.WalkLawsBesides
import Derived.WalkSpells
import Derived.Outline
import Derived.BigQuiet
import Derived.Deep.QuietTactic
import Derived.Deep.AppendLies
import Derived.Deep.RegionHeldLaw
import Derived.Deep.RegionLaw
import Derived.Laws.NewBlocks
import Derived.LoopN
import Derived.Deep.OwnRows
import Derived.RowKit3
import Derived.Laws.AppendOwn
import Derived.Laws.OwnMore
import Derived.Laws.IdiomStrings
import Derived.Lib.AppendStr
import Derived.OwnWalk
import Derived.ProofKit
import Derived.Maps.OwnSet
import Derived.Maps.OwnOps
import Derived.Maps.RangeWalk
import Derived.LaidEqlPtr
namespace Go.Proofs.YtcjlcieheepegaaGreatDoor.V8
open Go.RowKit
set_option linter.unusedVariables false
set_option maxRecDepth 20000
set_option maxRecDepth 20000

/-- Numbers below 256 as a text. -/
def toBA (l : List Nat) : ByteArray := ⟨(l.map UInt8.ofNat).toArray⟩
def bcells (l : List Nat) : List Value := l.map fun x => Value.int .u8 (x : Nat)
def bt (s : ByteArray) (i : Nat) : Nat := (s.data.toList.getD i 0).toNat
def bytesOf (s : ByteArray) : List Nat := s.data.toList.map UInt8.toNat
def Bytes (l : List Nat) : Prop := ∀ x ∈ l, x < 256
theorem bt_lt (s : ByteArray) (i : Nat) : bt s i < 256 := UInt8.toNat_lt _
theorem bytesOf_bytes (s : ByteArray) : Bytes (bytesOf s) := by
  intro x hx
  obtain ⟨y, _, rfl⟩ := List.mem_map.1 hx
  exact UInt8.toNat_lt y
theorem bytesOf_length (s : ByteArray) : (bytesOf s).length = s.size := by simp [bytesOf]
theorem Bytes.append {l m : List Nat} (h : Bytes l) (k : Bytes m) : Bytes (l ++ m) := by
  intro x hx; rcases List.mem_append.1 hx with hx | hx
  · exact h x hx
  · exact k x hx
theorem toBA_size (l : List Nat) : (toBA l).size = l.length := by simp [toBA, ByteArray.size]
theorem bytesOf_toBA (l : List Nat) (h : Bytes l) : bytesOf (toBA l) = l := by
  unfold bytesOf toBA
  simp only [List.map_map]
  conv => rhs; rw [← List.map_id l]
  refine List.map_congr_left fun x hx => ?_
  have := h x hx
  simp
  omega
theorem toBA_bytesOf (s : ByteArray) : toBA (bytesOf s) = s := by
  unfold bytesOf toBA
  rw [List.map_map]
  have : (UInt8.ofNat ∘ UInt8.toNat) = id := by funext x; simp
  rw [this, List.map_id]
theorem bt_toBA (l : List Nat) (h : Bytes l) (i : Nat) : bt (toBA l) i = l.getD i 0 := by
  unfold bt toBA
  rw [List.getD_eq_getElem?_getD, List.getD_eq_getElem?_getD]
  by_cases hi : i < l.length
  · have := h _ (List.getElem_mem hi)
    simp [hi]
    omega
  · simp [hi]
theorem bcells_length (l : List Nat) : (bcells l).length = l.length := by simp [bcells]
theorem bcells_append (l m : List Nat) : bcells (l ++ m) = bcells l ++ bcells m := by simp [bcells]
theorem strCells_eq (s : ByteArray) : Lib.strCells s = bcells (bytesOf s) := by simp [Lib.strCells, bcells, bytesOf]
theorem wrapN (T : Nat) (h : T ≤ 4611686018427387904) : IntKind.i64.wrap (T : Int) = (T : Int) := by rw [IntKind.wrap_i64]; omega
theorem add_zero_addr (g j : Nat) : (⟨g, 0, none⟩ : Addr).add j = ⟨g, j, none⟩ := by
  unfold Addr.add; split
  · subst_vars; rfl
  · simp
theorem news1 (W : World) (p : Value) (t : TypeId) : ∀ j u, [p][j]? = some u → (W.alloc (.cells #[p] t)).cell? ((⟨W.heap.size, 0, none⟩ : Addr).add j) = some u := by
  intro j u h
  rw [add_zero_addr]
  have hj : j = 0 := by
    have := (List.getElem?_eq_some_iff.1 h).1
    simp at this; omega
  subst hj
  have e : u = p := by simpa using h.symm
  subst e
  unfold World.cell?
  rw [heap_alloc_new]
  rfl
theorem oneB (x : Int) : ∀ u ∈ [Value.int .u8 x], u.oneCell' = true := by
  intro u hu; simp at hu; subst hu; rfl
theorem infoB : (Tryz.prog.info? 5).map (fun i => (i.zero, i.size, i.bytes)) = some (some (.int .u8 0), 1, 1) := by kernel_rfl
theorem conv_row {P : Program} (w : World) (src dst e : TypeId) (B : Nat) (v : Value) (l : List Nat) (hs : P.underlying src = some (.slice e)) (he : P.underlying e = some (.int .u8)) (hd : P.underlying dst = some .string)
    (hown : w.ownsRow B e 1 v l.length (bcells l)) (hl : ∀ x ∈ l, x < 256) : (convert src dst v).run P w = .ok (.string (toBA l)) w := by
  rcases hown.2 with ⟨rfl, h0⟩ | ⟨g, cap, cur, rfl, hB, hh, hnc, hcm, hcs, htk⟩
  · have : l = [] := List.length_eq_zero_iff.1 h0
    subst this
    rw [run_convert_bytes_string w src dst e none 0 0 hs he hd]
    simp [Conv.bytesToString]
    rfl
  · have hlen : (l.map UInt8.ofNat).length = l.length := by simp
    have := run_convert_bytes_back (P := P) w src dst e ⟨g, 0, none⟩ cap (l.map UInt8.ofNat) hs he hd (fun j hj => by
      have hj' : j < l.length := by simpa using hj
      have hx := hl l[j] (List.getElem_mem hj')
      refine hown.cells (g := g) rfl j _ ?_
      simp [bcells, List.getElem?_eq_getElem hj']
      omega)
    rw [hlen] at this
    exact this
theorem block_setCell {w : World} {b i : Nat} {cs : Array Value} {t : TypeId} {u : Value} (h : w.heap[b]? = some (.cells cs t (0, 0))) : (w.setCell ⟨b, i, none⟩ u).heap[b]? = some (.cells (cs.setIfInBounds i u) t (0, 0)) := by
  have hlt := lt_of_block h
  have h' : w.heap[b] = .cells cs t (0, 0) := by simpa [Array.getElem?_eq_getElem hlt] using h
  show (w.heap.modify b _)[b]? = _
  rw [Array.getElem?_eq_getElem (by simpa using hlt), Array.getElem_modify_self, h']
  rfl
theorem kept_row {w w' : World} {B b size n : Nat} {E T : TypeId} {v : Value} {xs : List Value} {cs : Array Value} {mk : Nat × Nat} (hbl : w.heap[b]? = some (.cells cs T mk)) (hT : T ≠ E) (hown : w.ownsRow B E size v n xs) (hg : w.grownBy w' v.ownBlock) : w'.heap[b]? = w.heap[b]? :=
  hg.block b (lt_of_block hbl) (fun e => by
    rcases hown.2 with ⟨rfl, _⟩ | ⟨g, cap, cur, rfl, hB, hh, _⟩
    · simp [Value.ownBlock] at e
    · have e' : b = g := by simpa [Value.ownBlock] using e
      subst e'; rw [hbl] at hh; cases hh; exact hT rfl)
theorem Below.grown {B size n : Nat} {E : TypeId} {w w' : World} {v : Value} {xs : List Value} (hown : w.ownsRow B E size v n xs) (hg : w.grownBy w' v.ownBlock) (hB : B ≤ w.heap.size) : Below B w w' :=
  ⟨hg.os, hg.tape, hg.output, hg.size, fun k hk => hg.block k (by omega) (fun e => by have := (hown.lt k e.symm).1; omega)⟩
theorem Below.setCell' {B b i : Nat} (w : World) (u : Value) (hB : B ≤ b) : Below B w (w.setCell ⟨b, i, none⟩ u) :=
  ⟨rfl, rfl, rfl, by simp [World.setCell], fun k hk => Below.heap_setCell _ _ _ _ (by show k ≠ b; omega)⟩

/-- More bytes of a text, appended at a step of a region that draws its order. -/
theorem step_append_string {P : Program} (w : World) {ops : Array Oper} {o : Oper} {a : Act} {K : Act → World → Prop} {Q : Exit → Act → World → Prop} {E : Prop} (hgd : o.guard = none) (sl x : Operand) (t u : TypeId)
    (ho : o.op = .call { callee := .builtin .append, args := #[sl, x], argTypes := #[t, u] })
    (base : Nat) (e : TypeId) (i : TypeInfo) (ht : P.underlying t = some (.slice e)) (hu : P.underlying u = some .string) (hi : P.info? e = some i) (hz : i.zero = some (.int .u8 0))
    (hsize : i.size = 1) (hby : i.bytes = 1)
    (v : Value) (n : Nat) (xs : List Value) (hs : a.eval sl = v) (hown : w.ownsRow base e 1 v n xs) (s : ByteArray) (hx : a.eval x = .string s)
    (h63 : n + s.size ≤ maxLen) (hbytes : n + s.size ≤ 140737488355328) (hbase : base ≤ w.heap.size)
    (h : ∀ v' w', w'.ownsRow base e 1 v' (n + s.size) (xs ++ Lib.strCells s) → w.grownBy w' v.ownBlock → K (a.put o.dst v') w') :
    if Region.wanted o (yielded ops a.tmps) = true then Oper.wp P o a w K Q else E := by
  have hw : Region.wanted o (yielded ops a.tmps) = true := by simp [Region.wanted, hgd]
  rw [if_pos hw]
  obtain ⟨v', w', hr, h2, h3, h4⟩ := Lib.run_append_own_string (P := P) w base t u o.type e i ht hu hi hz hsize hby v n xs hown s h63 hbytes hbase
  unfold Oper.wp execOp
  simp only [ho, resolve, invoke, builtin, Sem.run_bind, Sem.run_pure, Result.andThen_ok, List.map_toArray, List.map_cons, List.map_nil, hs, hx, hr]
  exact h v' w' h2 h3
theorem ownsRow_set {w : World} {B u i n : Nat} {E T : TypeId} {v x : Value} {xs : List Value} {cs : Array Value} {mk : Nat × Nat} (h : w.ownsRow B E 1 v n xs) (hbl : w.heap[u]? = some (.cells cs T mk)) (hT : T ≠ E) : (w.setCell ⟨u, i, none⟩ x).ownsRow B E 1 v n xs := by
  refine ⟨h.1, ?_⟩
  rcases h.2 with e | ⟨g, cap, cur, e1, e2, e3, e4⟩
  · exact .inl e
  · refine .inr ⟨g, cap, cur, e1, e2, ?_, e4⟩
    have hgu : g ≠ u := by rintro rfl; rw [hbl] at e3; cases e3; exact hT rfl
    rw [Below.heap_setCell _ _ _ _ hgu]; exact e3
end Go.Proofs.YtcjlcieheepegaaGreatDoor.V8
namespace Go.Proofs.YtcjlcieheepegaaGreatDoor.V8
open Go.RowKit Go.Maps
set_option linter.unusedVariables false
set_option maxRecDepth 20000
set_option maxRecDepth 20000

/-- A file: its name, its block, the slice of its bytes, its bytes, how many are synced. -/
structure FR where
  name : List UInt8
  blk : Nat
  v : Value
  l : List Nat
  n : Nat
def FR.ent (m : FR) : Lit × DataW Unit := (.string m.name, .lit (.int .i64 (m.blk : Nat)))
def used (M : List FR) : Nat := (M.map fun m => m.l.length).sum
def findF (M : List FR) (s : List UInt8) : Option FR := M.find? fun m => decide (m.name = s)
def look (M : List FR) (s : List UInt8) : Option (List Nat × Nat) := (findF M s).map fun m => (m.l, m.n)
def rm (M : List FR) (s : List UInt8) : List FR := M.filter fun m => decide (m.name ≠ s)
def Apart (a b : FR) : Prop := a.name ≠ b.name ∧ a.blk ≠ b.blk ∧ ∀ g, a.v.ownBlock = some g → b.v.ownBlock ≠ some g
theorem Apart.symm {a b : FR} (h : Apart a b) : Apart b a := ⟨h.1.symm, h.2.1.symm, fun g hg e => h.2.2 g e hg⟩

/-- How a map's element reads: a pointer to a file. -/
def pE : Value → Option (DataW Unit × List MemPlace)
  | .pointer none => some (.nil, [])
  | .pointer (some ⟨b, 0, none⟩) => some (.lit (.int .i64 (b : Nat)), [])
  | _ => none
theorem pE_inv {v : Value} {y : DataW Unit × List MemPlace} (h : pE v = some y) : (v = .pointer none ∧ y = (.nil, [])) ∨ ∃ b : Nat, v = .pointer (some ⟨b, 0, none⟩) ∧ y = (.lit (.int .i64 (b : Nat)), []) := by
  unfold pE at h
  split at h
  · cases h; exact .inl ⟨rfl, rfl⟩
  · cases h; exact .inr ⟨_, rfl, rfl⟩
  · cases h

theorem findF_none {M : List FR} {s : List UInt8} (h : findF M s = none) : ∀ m ∈ M, m.name ≠ s := fun m hm e => by
  have := List.find?_eq_none.1 h m hm
  simp [e] at this
theorem findF_some {M : List FR} {s : List UInt8} {m : FR} (h : findF M s = some m) : m ∈ M ∧ m.name = s := by
  refine ⟨List.mem_of_find?_eq_some h, ?_⟩
  have := List.find?_some h
  simpa using this
theorem uniq : ∀ {M : List FR}, M.Pairwise Apart → ∀ {a b : FR}, a ∈ M → b ∈ M → a.name = b.name → a = b
  | [], _, a, b, ha, _, _ => absurd ha (by simp)
  | x :: r, h, a, b, ha, hb, e => by
    obtain ⟨h1, h2⟩ := List.pairwise_cons.1 h
    rcases List.mem_cons.1 ha with rfl | ha'
    · rcases List.mem_cons.1 hb with rfl | hb'
      · rfl
      · exact absurd e (h1 b hb').1
    · rcases List.mem_cons.1 hb with rfl | hb'
      · exact absurd e.symm (h1 a ha').1
      · exact uniq h2 ha' hb' e
theorem findF_of {M : List FR} (hM : M.Pairwise Apart) {m : FR} (hm : m ∈ M) : findF M m.name = some m := by
  cases h : findF M m.name with
  | none => exact absurd rfl (findF_none h m hm)
  | some x =>
    obtain ⟨h1, h2⟩ := findF_some h
    rw [uniq hM h1 hm h2]
theorem findF_split {M : List FR} {s : List UInt8} {m : FR} (hM : M.Pairwise Apart) (h : findF M s = some m) : ∃ A C, M = A ++ m :: C ∧ m.name = s := by
  obtain ⟨h1, h2⟩ := findF_some h
  obtain ⟨A, C, rfl⟩ := List.append_of_mem h1
  exact ⟨A, C, rfl, h2⟩
theorem apart_split {A C : List FR} {m : FR} (h : (A ++ m :: C).Pairwise Apart) : (A ++ C).Pairwise Apart ∧ ∀ x ∈ A ++ C, Apart x m := by
  obtain ⟨h1, h2, h3⟩ := List.pairwise_append.1 h
  obtain ⟨h4, h5⟩ := List.pairwise_cons.1 h2
  refine ⟨List.pairwise_append.2 ⟨h1, h5, fun a ha b hb => h3 a ha b (by simp [hb])⟩, fun x hx => ?_⟩
  rcases List.mem_append.1 hx with hx | hx
  · exact h3 x hx m (by simp)
  · exact (h4 x hx).symm
theorem apart_join {A C : List FR} {m : FR} (h : (A ++ C).Pairwise Apart) (k : ∀ x ∈ A ++ C, Apart x m) : (A ++ m :: C).Pairwise Apart := by
  obtain ⟨h1, h2, h3⟩ := List.pairwise_append.1 h
  refine List.pairwise_append.2 ⟨h1, List.pairwise_cons.2 ⟨fun x hx => (k x (by simp [hx])).symm, h2⟩, fun a ha b hb => ?_⟩
  rcases List.mem_cons.1 hb with rfl | hb
  · exact k a (by simp [ha])
  · exact h3 a ha b hb
theorem rm_split {A C : List FR} {m : FR} (h : (A ++ m :: C).Pairwise Apart) : rm (A ++ m :: C) m.name = A ++ C := by
  obtain ⟨_, h2⟩ := apart_split h
  have e : ∀ L : List FR, (∀ x ∈ L, x ∈ A ++ C) → rm L m.name = L := fun L hL => List.filter_eq_self.2 fun x hx => by simpa using (h2 x (hL x hx)).1
  have e1 := e A (fun x hx => by simp [hx])
  have e2 := e C (fun x hx => by simp [hx])
  unfold rm at *
  rw [List.filter_append, List.filter_cons, e1, e2]
  simp
theorem rm_none {M : List FR} {s : List UInt8} (h : findF M s = none) : rm M s = M := List.filter_eq_self.2 fun x hx => by simpa using findF_none h x hx
theorem findF_append (A C : List FR) (t : List UInt8) : findF (A ++ C) t = (findF A t).or (findF C t) := by simp [findF, List.find?_append]
theorem findF_cons (m : FR) (C : List FR) (t : List UInt8) : findF (m :: C) t = if m.name = t then some m else findF C t := by
  unfold findF
  by_cases h : m.name = t <;> simp [h]
theorem findF_apart {M : List FR} {s : List UInt8} (h : ∀ x ∈ M, x.name ≠ s) : findF M s = none := List.find?_eq_none.2 fun x hx => by simpa using h x hx
theorem look_split {A C : List FR} {m : FR} (h : (A ++ m :: C).Pairwise Apart) (t : List UInt8) : look (A ++ m :: C) t = if t = m.name then some (m.l, m.n) else look (A ++ C) t := by
  obtain ⟨_, h2⟩ := apart_split h
  unfold look
  rw [findF_append, findF_cons, findF_append]
  by_cases e : t = m.name
  · subst e
    rw [findF_apart (M := A) (fun x hx => (h2 x (by simp [hx])).1)]
    simp
  · rw [if_neg (fun e' => e e'.symm), if_neg e]
theorem look_rm_split {A C : List FR} {m : FR} (h : (A ++ m :: C).Pairwise Apart) (t : List UInt8) : look (A ++ C) t = if t = m.name then none else look (A ++ m :: C) t := by
  obtain ⟨_, h2⟩ := apart_split h
  rw [look_split h]
  by_cases e : t = m.name
  · subst e
    simp only [if_true]
    unfold look
    rw [findF_apart (fun x hx => (h2 x hx).1)]; rfl
  · simp [e]
theorem used_split (A C : List FR) (m : FR) : used (A ++ m :: C) = used (A ++ C) + m.l.length := by
  simp [used]; omega
theorem used_cons (C : List FR) (m : FR) : used (m :: C) = used C + m.l.length := by simp [used]; omega
theorem len_split (A C : List FR) (m : FR) : (A ++ m :: C).length = (A ++ C).length + 1 := by simp; omega
theorem used_mem {M : List FR} {m : FR} (h : m ∈ M) : m.l.length ≤ used M := by
  obtain ⟨A, C, rfl⟩ := List.append_of_mem h
  rw [used_split]; omega
theorem look_some {M : List FR} {s : List UInt8} {x : List Nat × Nat} (h : look M s = some x) : ∃ m, findF M s = some m ∧ (m.l, m.n) = x := by
  unfold look at h
  cases e : findF M s with
  | none => rw [e] at h; cases h
  | some m => rw [e] at h; exact ⟨m, rfl, by simpa using h⟩
theorem look_none {M : List FR} {s : List UInt8} (h : look M s = none) : findF M s = none := by
  unfold look at h
  cases e : findF M s with
  | none => rfl
  | some m => rw [e] at h; cases h

theorem sameStr (a b : List UInt8) : (Lit.string a).sameKey (.string b) = decide (a = b) := by
  show (a == b) = decide (a = b)
  by_cases h : a = b
  · subst h; simp
  · simp [h]
/-- What the map has at a name. -/
theorem atKey_M {es : List (Lit × DataW Unit)} {M : List FR} (hp : es.Perm (M.map FR.ent)) (hM : M.Pairwise Apart) (s : List UInt8) (z : DataW Unit) :
    (DataW.map es).atKey (.string s) z = match findF M s with | some m => .lit (.int .i64 (m.blk : Nat)) | none => z := by
  cases h : findF M s with
  | none =>
    have : es.find? (fun p => p.1.sameKey (.string s)) = none := List.find?_eq_none.2 fun p hp' => by
      obtain ⟨m, hm, rfl⟩ := List.mem_map.1 (hp.mem_iff.1 hp')
      have := findF_none h m hm
      simp [FR.ent, sameStr, this]
    simp [DataW.atKey, this]
  | some m =>
    obtain ⟨h1, h2⟩ := findF_some h
    obtain ⟨p, hpf⟩ : ∃ p, es.find? (fun p => p.1.sameKey (.string s)) = some p := by
      have : (es.find? (fun p => p.1.sameKey (.string s))).isSome = true := List.find?_isSome.2 ⟨m.ent, hp.mem_iff.2 (List.mem_map.2 ⟨m, h1, rfl⟩), by simp [FR.ent, sameStr, h2]⟩
      exact Option.isSome_iff_exists.1 this
    obtain ⟨m', hm', rfl⟩ := List.mem_map.1 (hp.mem_iff.1 (List.mem_of_find?_eq_some hpf))
    have h3 : m'.name = s := by have := List.find?_some hpf; simpa [FR.ent, sameStr] using this
    have h4 : m' = m := uniq hM hm' h1 (by rw [h3, h2])
    subst h4
    simp [DataW.atKey, hpf, FR.ent]
theorem perm_put {es : List (Lit × DataW Unit)} {M : List FR} (hp : es.Perm (M.map FR.ent)) (m : FR) : ∃ es', (DataW.map es).put (.string m.name) (.lit (.int .i64 (m.blk : Nat))) = .map es' ∧ es'.Perm ((m :: rm M m.name).map FR.ent) := by
  refine ⟨_, rfl, (WideShapes.insert_perm _ _).trans ?_⟩
  refine List.Perm.cons _ ?_
  refine (hp.filter _).trans ?_
  unfold rm
  rw [List.filter_map]
  have : ((fun p : Lit × DataW Unit => !p.1.sameKey (.string m.name)) ∘ FR.ent) = fun x : FR => decide (x.name ≠ m.name) := by funext x; simp [FR.ent, sameStr]
  rw [this]
theorem perm_del {es : List (Lit × DataW Unit)} {M : List FR} (hp : es.Perm (M.map FR.ent)) (s : List UInt8) : ∃ es', (DataW.map es).del (.string s) = .map es' ∧ es'.Perm ((rm M s).map FR.ent) := by
  refine ⟨_, rfl, (hp.filter _).trans ?_⟩
  unfold rm
  rw [List.filter_map]
  have : ((fun p : Lit × DataW Unit => !p.1.sameKey (.string s)) ∘ FR.ent) = fun x : FR => decide (x.name ≠ s) := by funext x; simp [FR.ent, sameStr]
  rw [this]

/-- A file lies in memory. -/
structure FOK (w : World) (B : Nat) (m : FR) : Prop where
  blk : w.heap[m.blk]? = some (.cells #[m.v, .int .i64 (m.n : Nat)] 105 (0, 0))
  own : w.ownsRow B 5 1 m.v m.l.length (bcells m.l)
  bytes : Bytes m.l
  le : m.n ≤ m.l.length
  hB : B ≤ m.blk
/-- A disk lies in memory. -/
structure VM (w : World) (B d room bm : Nat) (M : List FR) : Prop where
  blk : w.heap[d]? = some (.cells #[.pointer (some ⟨d, 0, none⟩), .int .i64 (room : Nat), .map (some bm)] 79 (0, 0))
  own : ∃ es, w.ownsMap Tryz.prog 9 pE bm M.length (.map es) ∧ es.Perm (M.map FR.ent)
  apart : M.Pairwise Apart
  each : ∀ m ∈ M, FOK w B m
  hd : B ≤ d
  hbm : B ≤ bm
  hroom : room ≤ 16777216
  hused : used M ≤ room
  hcnt : M.length ≤ 256
theorem law9 : Keyed Tryz.prog 9 := string_keyed Tryz.underlying9
theorem zeroF (w : World) : (zeroValue 101).run Tryz.prog w = .ok (.pointer none) w := by kernel_rfl
theorem key9 (s : ByteArray) (h : s.size ≤ maxLen) : keyOf Tryz.prog 9 (.string s) = some (.string s.data.toList) := WideMaps.keyOf_string_mk Tryz.underlying9 h
def ptrF (o : Option FR) : Value := match o with | some m => .pointer (some ⟨m.blk, 0, none⟩) | none => .pointer none
/-- What is looked up in the map. -/
theorem look_run {W : World} {bm n : Nat} {es : List (Lit × DataW Unit)} {M : List FR} (h : W.ownsMap Tryz.prog 9 pE bm n (.map es)) (hp : es.Perm (M.map FR.ent)) (hM : M.Pairwise Apart) (s : ByteArray) (hs : s.size ≤ maxLen) :
    (Instr.lookup 77 (.map (some bm)) (.string s) false).run Tryz.prog W = .ok (ptrF (findF M s.data.toList)) W := by
  obtain ⟨v, ps, hrun, hv⟩ := h.lookup law9 Tryz.underlying77 (zeroF W) (zd := .nil) (zp := []) rfl (key9 s hs)
  rw [atKey_M hp hM] at hv
  rw [hrun]
  cases hf : findF M s.data.toList with
  | none =>
    rw [hf] at hv
    rcases pE_inv hv with ⟨rfl, _⟩ | ⟨b, rfl, e⟩
    · rfl
    · simp at e
  | some m =>
    rw [hf] at hv
    rcases pE_inv hv with ⟨rfl, e⟩ | ⟨b, rfl, e⟩
    · simp at e
    · simp at e
      have : b = m.blk := by omega
      subst this; rfl

theorem ownsRow_block {w w' : World} {B E size n : Nat} {v : Value} {xs : List Value} (h : w.ownsRow B E size v n xs) (hb : ∀ g, v.ownBlock = some g → w'.heap[g]? = w.heap[g]?) : w'.ownsRow B E size v n xs := by
  refine ⟨h.1, ?_⟩
  rcases h.2 with e | ⟨g, cap, cur, e1, e2, e3, e4⟩
  · exact .inl e
  · exact .inr ⟨g, cap, cur, e1, e2, (hb g (by rw [e1]; rfl)).trans e3, e4⟩
theorem ownsMap_block {w w' : World} {P : Program} {k : TypeId} {R : Value → Option (DataW Unit × List MemPlace)} {b n : Nat} {D : DataW Unit} (h : w.ownsMap P k R b n D) (hb : w'.heap[b]? = w.heap[b]?) : w'.ownsMap P k R b n D := by
  obtain ⟨es, clock, h1, h2⟩ := h
  exact ⟨es, clock, hb.trans h1, h2⟩
theorem ownsMap_tight {w : World} {P : Program} {k : TypeId} {R : Value → Option (DataW Unit × List MemPlace)} {b n n' : Nat} {es : List (Lit × DataW Unit)} (h : w.ownsMap P k R b n (.map es)) (hn : es.length ≤ n') : w.ownsMap P k R b n' (.map es) := by
  obtain ⟨es', clock, h1, h2, h3, h4⟩ := h
  refine ⟨es', clock, h1, h2, ?_, h4⟩
  have e : es.length = es'.size := by
    have := congrArg (fun D : DataW Unit => match D with | .map l => l.length | _ => 0) h4
    simp [length_sorted] at this
    exact this
  omega
theorem FOK.block {w w' : World} {B : Nat} {m : FR} (h : FOK w B m) (h1 : w'.heap[m.blk]? = w.heap[m.blk]?) (h2 : ∀ g, m.v.ownBlock = some g → w'.heap[g]? = w.heap[g]?) : FOK w' B m :=
  ⟨h1.trans h.blk, ownsRow_block h.own h2, h.bytes, h.le, h.hB⟩
theorem FOK.row {w : World} {B : Nat} {m : FR} (h : FOK w B m) {g : Nat} (hg : m.v.ownBlock = some g) : ∃ cur, w.heap[g]? = some (.cells cur 5 (0, 0)) ∧ B ≤ g := by
  rcases h.own.2 with ⟨e, _⟩ | ⟨g', cap, cur, e1, e2, e3, e4⟩
  · rw [e] at hg; simp [Value.ownBlock] at hg
  · rw [e1] at hg
    have : g' = g := by simpa [Value.ownBlock] using hg
    subst this; exact ⟨cur, e3, e2⟩
theorem FOK.lt {w : World} {B : Nat} {m : FR} (h : FOK w B m) : m.blk < w.heap.size ∧ ∀ g, m.v.ownBlock = some g → g < w.heap.size := ⟨lt_of_block h.blk, fun g hg => by obtain ⟨cur, e, _⟩ := h.row hg; exact lt_of_block e⟩
theorem VM.mapBlk {w : World} {B d room bm : Nat} {M : List FR} (h : VM w B d room bm M) : ∃ es clock, w.heap[bm]? = some (.map es clock) := by
  obtain ⟨es, ⟨e, c, h1, _⟩, _⟩ := h.own
  exact ⟨e, c, h1⟩
theorem VM.lt {w : World} {B d room bm : Nat} {M : List FR} (h : VM w B d room bm M) : d < w.heap.size ∧ bm < w.heap.size := by
  obtain ⟨es, hD, _⟩ := h.own
  exact ⟨lt_of_block h.blk, hD.lt⟩
theorem VM.base {w : World} {B d room bm : Nat} {M : List FR} (h : VM w B d room bm M) : B ≤ w.heap.size := Nat.le_trans h.hd (Nat.le_of_lt h.lt.1)
theorem VM.cells {w : World} {B d room bm : Nat} {M : List FR} (h : VM w B d room bm M) : w.cell? ⟨d, 0, none⟩ = some (.pointer (some ⟨d, 0, none⟩)) ∧ w.cell? ⟨d, 1, none⟩ = some (.int .i64 (room : Nat)) ∧ w.cell? ⟨d, 2, none⟩ = some (.map (some bm)) := by
  have h1 := h.blk
  exact ⟨by simp [World.cell?, h1], by simp [World.cell?, h1], by simp [World.cell?, h1]⟩
theorem FOK.cells {w : World} {B : Nat} {m : FR} (h : FOK w B m) : w.cell? ⟨m.blk, 0, none⟩ = some m.v ∧ w.cell? ⟨m.blk, 1, none⟩ = some (.int .i64 (m.n : Nat)) ∧ w.frozen? ⟨m.blk, 0, none⟩ = false ∧ w.frozen? ⟨m.blk, 1, none⟩ = false := by
  have h1 := h.blk
  exact ⟨by simp [World.cell?, h1], by simp [World.cell?, h1], by simp [World.frozen?, h1], by simp [World.frozen?, h1]⟩
theorem FOK.form {w : World} {B : Nat} {m : FR} (h : FOK w B m) : ∃ ao cp, m.v = .slice ao m.l.length cp := by
  rcases h.own.2 with ⟨e, h0⟩ | ⟨g, cap, cur, e, _⟩
  · exact ⟨none, 0, by rw [e, h0]⟩
  · exact ⟨_, _, e⟩
/-- Nothing that was there has turned: a disk is what it was. -/
theorem VM.below {w w' : World} {B d room bm : Nat} {M : List FR} (h : VM w B d room bm M) (hb : Below w.heap.size w w') : VM w' B d room bm M := by
  obtain ⟨es, hD, hp⟩ := h.own
  exact ⟨(hb.block _ h.lt.1).trans h.blk, ⟨es, ownsMap_block hD (hb.block _ h.lt.2), hp⟩, h.apart, fun m hm => (h.each m hm).block (hb.block _ (h.each m hm).lt.1) (fun g hg => hb.block _ ((h.each m hm).lt.2 g hg)), h.hd, h.hbm, h.hroom, h.hused, h.hcnt⟩
/-- A file has turned. -/
theorem VM.turned {w w' : World} {B d room bm : Nat} {A C : List FR} {m m' : FR} (h : VM w B d room bm (A ++ m :: C)) (hn : m'.name = m.name) (hb : m'.blk = m.blk) (hk : ∀ i, i < w.heap.size → i ≠ m.blk → m.v.ownBlock ≠ some i → w'.heap[i]? = w.heap[i]?)
    (hF : FOK w' B m') (hnew : ∀ g, m'.v.ownBlock = some g → m.v.ownBlock = some g ∨ w.heap.size ≤ g) (hu : used (A ++ m' :: C) ≤ room) : VM w' B d room bm (A ++ m' :: C) := by
  obtain ⟨es, hD, hp⟩ := h.own
  obtain ⟨es0, clock, hmb⟩ := h.mapBlk
  have hm : m ∈ A ++ m :: C := by simp
  have hFm := h.each m hm
  obtain ⟨ap, apm⟩ := apart_split h.apart
  have hd1 : d ≠ m.blk := by intro e; have h1 := h.blk; rw [e, hFm.blk] at h1; simp at h1
  have hd2 : m.v.ownBlock ≠ some d := by intro e; obtain ⟨cur, h1, _⟩ := hFm.row e; rw [h.blk] at h1; simp at h1
  have hb1 : bm ≠ m.blk := by intro e; rw [e, hFm.blk] at hmb; cases hmb
  have hb2 : m.v.ownBlock ≠ some bm := by intro e; obtain ⟨cur, h1, _⟩ := hFm.row e; rw [hmb] at h1; cases h1
  have hent : (A ++ m' :: C).map FR.ent = (A ++ m :: C).map FR.ent := by simp [FR.ent, hn, hb]
  have hlen : (A ++ m' :: C).length = (A ++ m :: C).length := by simp
  have hoth : ∀ x ∈ A ++ C, FOK w' B x := fun x hx => by
    have hx' : x ∈ A ++ m :: C := by
      rcases List.mem_append.1 hx with h1 | h1 <;> simp [h1]
    have hFx := h.each x hx'
    have hxm := apm x hx
    refine hFx.block (hk _ hFx.lt.1 hxm.2.1 ?_) (fun g hg => hk g (hFx.lt.2 g hg) ?_ ?_)
    · intro e; obtain ⟨cur, h1, _⟩ := hFm.row e; rw [hFx.blk] at h1; simp at h1
    · rintro rfl; obtain ⟨cur, h1, _⟩ := hFx.row hg; rw [hFm.blk] at h1; simp at h1
    · exact hxm.2.2 g hg
  refine ⟨(hk d h.lt.1 hd1 hd2).trans h.blk, ⟨es, ?_, hent ▸ hp⟩, apart_join ap (fun x hx => ?_), fun x hx => ?_, h.hd, h.hbm, h.hroom, hu, hlen ▸ h.hcnt⟩
  · rw [hlen]; exact ownsMap_block hD (hk bm h.lt.2 hb1 hb2)
  · have hxm := apm x hx
    have hx' : x ∈ A ++ m :: C := by
      rcases List.mem_append.1 hx with h1 | h1 <;> simp [h1]
    refine ⟨hn ▸ hxm.1, hb ▸ hxm.2.1, fun g hg e => ?_⟩
    rcases hnew g e with h1 | h1
    · exact hxm.2.2 g hg h1
    · have := (h.each x hx').lt.2 g hg; omega
  · rcases List.mem_append.1 hx with h1 | h1
    · exact hoth x (by simp [h1])
    · rcases List.mem_cons.1 h1 with rfl | h1
      · exact hF
      · exact hoth x (by simp [h1])
/-- The map has turned alone: other files are there. -/
theorem VM.remapped {w w' : World} {B d room bm n : Nat} {M M' : List FR} {es : List (Lit × DataW Unit)} (h : VM w B d room bm M) (hg : w.grownBy w' (some bm)) (hD : w'.ownsMap Tryz.prog 9 pE bm n (.map es)) (hp : es.Perm (M'.map FR.ent)) (hM : M'.Pairwise Apart) (hE : ∀ m ∈ M', FOK w B m)
    (hu : used M' ≤ room) (hc : M'.length ≤ 256) : VM w' B d room bm M' := by
  obtain ⟨es0, clock, hmb⟩ := h.mapBlk
  have hl := hp.length_eq
  have hd1 : d ≠ bm := by intro e; have h1 := h.blk; rw [e, hmb] at h1; cases h1
  refine ⟨(hg.block d h.lt.1 (fun e => hd1 (by simpa using e))).trans h.blk, ⟨es, ownsMap_tight hD (by simp at hl; omega), hp⟩, hM, fun m hm => ?_, h.hd, h.hbm, h.hroom, hu, hc⟩
  have hF := hE m hm
  refine hF.block (hg.block _ hF.lt.1 ?_) (fun g hg' => hg.block g (hF.lt.2 g hg') ?_)
  · intro e; have e' : m.blk = bm := by simpa using e
    have h1 := hF.blk; rw [e', hmb] at h1; cases h1
  · intro e; have e' : g = bm := by simpa using e
    obtain ⟨cur, h1, _⟩ := hF.row hg'; rw [e', hmb] at h1; cases h1

/-- What a disk's calls turn: nothing below block B, and no rows but disks, files and bytes. -/
structure VF (B : Nat) (w w' : World) : Prop where
  below : Below B w w'
  kept : ∀ (i : Nat) (cs : Array Value) (t : TypeId) (mk : Nat × Nat), w.heap[i]? = some (Obj.cells cs t mk) → t ≠ 79 → t ≠ 105 → t ≠ 5 → w'.heap[i]? = w.heap[i]?
theorem VF.refl (B : Nat) (w : World) : VF B w w := ⟨Below.refl _ _, fun _ _ _ _ _ _ _ _ => rfl⟩
theorem VF.trans {B : Nat} {a b c : World} (h : VF B a b) (k : VF B b c) : VF B a c :=
  ⟨h.below.trans k.below, fun i cs t mk hi h1 h2 h3 => by
    have e := h.kept i cs t mk hi h1 h2 h3
    exact (k.kept i cs t mk (e.trans hi) h1 h2 h3).trans e⟩
theorem VF.of {B : Nat} {w w' : World} (h : Below w.heap.size w w') (hB : B ≤ w.heap.size) : VF B w w' :=
  ⟨⟨h.os, h.tape, h.output, h.size, fun k hk => h.block k (by omega)⟩, fun i cs t mk hi _ _ _ => h.block i (lt_of_block hi)⟩
theorem VF.map {B bm : Nat} {w w' : World} {es : Array MapEntry} {clock : Nat} (hm : w.heap[bm]? = some (.map es clock)) (hB : B ≤ bm) (hg : w.grownBy w' (some bm)) : VF B w w' := by
  have hl : bm < w.heap.size := (Array.getElem?_eq_some_iff.1 hm).1
  refine ⟨⟨hg.os, hg.tape, hg.output, hg.size, fun k hk => hg.block k (by omega) (fun e => ?_)⟩, fun i cs t mk hi _ _ _ => hg.block i (lt_of_block hi) (fun e => ?_)⟩
  · have : k = bm := by simpa using e
    omega
  · have : i = bm := by simpa using e
    subst this; rw [hm] at hi; cases hi
theorem VF.file {B b i : Nat} {w : World} {cs : Array Value} {mk : Nat × Nat} (hb : w.heap[b]? = some (.cells cs 105 mk)) (hB : B ≤ b) (u : Value) : VF B w (w.setCell ⟨b, i, none⟩ u) := by
  refine ⟨Below.setCell' w u hB, fun k cs' t mk' hk h1 h2 h3 => Below.heap_setCell _ _ _ _ (fun e => ?_)⟩
  have e' : k = b := e
  subst e'; rw [hb] at hk; cases hk; exact h2 rfl
theorem VF.row {B n : Nat} {w w' : World} {v : Value} {xs : List Value} (hown : w.ownsRow B 5 1 v n xs) (hg : w.grownBy w' v.ownBlock) (hB : B ≤ w.heap.size) : VF B w w' := by
  refine ⟨Below.grown hown hg hB, fun i cs t mk hi h1 h2 h3 => kept_row hi h3 hown hg⟩
end Go.Proofs.YtcjlcieheepegaaGreatDoor.V8
namespace Go.Proofs.YtcjlcieheepegaaGreatDoor.V8
open Go.RowKit Go.Maps
set_option linter.unusedVariables false
set_option maxRecDepth 20000
set_option maxRecDepth 20000

theorem bt_at (s : ByteArray) (a : Nat) (h : a < s.size) : (s[a]'h).toNat = bt s a := by
  have h' : a < s.data.size := h
  unfold bt
  rw [List.getD_eq_getElem?_getD, Array.getElem?_toList, Array.getElem?_eq_getElem h']
  rfl
theorem wrapN64 (T : Nat) (h : T ≤ 4611686018427387904) : wrap64 (T : Int) = (T : Int) := by unfold wrap64; omega
theorem Below.drewN' (B : Nat) (w : World) (k : Nat) : Below B w (w.drewN k) := ⟨rfl, rfl, rfl, Nat.le_refl _, fun _ _ => rfl⟩
def okB (s : ByteArray) (i : Nat) : Prop := 33 ≤ bt s i ∧ bt s i ≤ 126
/-- A name that may be. -/
def May (s : ByteArray) : Prop := 1 ≤ s.size ∧ s.size ≤ 32 ∧ ∀ i, i < s.size → okB s i
set_option maxHeartbeats 1000000 in
theorem mayBe_size (w : World) (s : ByteArray) (h : s.size = 0 ∨ 32 < s.size) :
    Calls Tryz.prog 77 #[.string s] w fun e w' => e = .returned (.bool false) ∧ w' = w := by
  go_enter Tryz.func77, Tryz.ntmps77
  rcases h with h | h
  · have h1 : (s.size : Int) < 1 := by omega
    go_wp2
    go_ret
    exact ⟨rfl, rfl⟩
  · have h1 : ¬ (s.size : Int) < 1 := by omega
    have h2 : (32 : Int) < (s.size : Int) := by omega
    go_wp2
    go_ret
    exact ⟨rfl, rfl⟩
def MayEnd (s : ByteArray) (w : World) (e : Ending) (w' : World) : Prop := ∃ b : Bool, e = .returned (.bool b) ∧ w' = w ∧ (May s → b = true)
set_option maxHeartbeats 1000000 in
/-- Whatever name: an answer, and nothing turns; true of one that may be. -/
theorem mayBe_ok (w : World) (s : ByteArray) :
    Calls Tryz.prog 77 #[.string s] w (MayEnd s w) := by
  by_cases hz : s.size = 0 ∨ 32 < s.size
  · refine (mayBe_size w s hz).mono ?_
    rintro e w' ⟨rfl, rfl⟩
    exact ⟨false, rfl, rfl, fun h => by have := h.1; have := h.2.1; omega⟩
  have h1 : ¬ (s.size : Int) < 1 := by omega
  have h2 : ¬ (32 : Int) < (s.size : Int) := by omega
  have h3 : s.size ≤ 32 := by omega
  clear hz
  go_enter Tryz.func77, Tryz.ntmps77
  go_wp2_with fail
  go_loopw [14] (fun v wr => ∃ k : Nat, v = .int .i64 (k : Nat) ∧ k ≤ s.size ∧ wr = w ∧ Hid (∀ i, i < k → okB s i)) (fun v _ => s.size - (intOf v).toNat)
  case atStart => exact ⟨0, rfl, Nat.zero_le _, rfl, fun i hi => absurd hi (by omega)⟩
  case round =>
    obtain ⟨k, rfl, hk, rfl, HK⟩ := hrel
    by_cases hlt : k < s.size
    · have hlti : (k : Int) < (s.size : Int) := by omega
      have hbt := bt_at s k hlt
      have HX : Hid (∀ i, i < k + 1 → okB s i ∨ i = k) := fun i hi => by
        by_cases e : i = k
        · exact .inr e
        · exact .inl (HK.out i (by omega))
      have HOK : Hid (okB s k = (33 ≤ bt s k ∧ bt s k ≤ 126)) := rfl
      obtain ⟨x, hx⟩ : ∃ x, bt s k = x := ⟨_, rfl⟩
      rw [hx] at hbt
      have HB : Hid (bt s k = x) := hx
      clear hx
      by_cases g1 : (x : Int) < 33
      · go_wp2
        go_ret
        exact ⟨false, rfl, rfl, fun h => by have := h.2.2 k hlt; have e := HB.out; unfold okB at this; omega⟩
      · by_cases g2 : (126 : Int) < (x : Int)
        · go_wp2
          go_ret
          exact ⟨false, rfl, rfl, fun h => by have := h.2.2 k hlt; have e := HB.out; unfold okB at this; omega⟩
        · go_wp2
          refine ⟨⟨k + 1, by go_num, by omega, trivial, fun i hi => ?_⟩, by simp [intOf]; omega⟩
          rcases HX.out i hi with h | h
          · exact h
          · subst h; have e := HB.out; unfold okB; omega
    · have hlti : ¬ (k : Int) < (s.size : Int) := by omega
      go_wp2
      go_ret
      exact ⟨true, rfl, rfl, fun _ => rfl⟩
section
variable {P : Program} (w : World)
theorem eql_nil_ptr {tp te : TypeId} (a : Addr) (hp : P.underlying tp = some (.pointer te)) :
    (binOp .eql tp (.pointer none) (.pointer (some a))).run P w = .ok (.bool false) w := by
  have h : ∀ d : Nat, (Op.equalIn (d + 1) tp (.pointer none) (.pointer (some a))).run P w = .ok false w := fun d => by
    simp [Op.equalIn, run_underlying hp]
  simp only [binOp]
  simp [Op.equal, Op.maxDepth, h 9999]
end
theorem eqSelfD (a : Addr) (w : World) : (binOp .eql 23 (.pointer (some a)) (.pointer (some a))).run Tryz.prog w = .ok (.bool true) w := by
  obtain ⟨j, hj⟩ : ∃ j, Tryz.prog.info? 79 = some j := Option.isSome_iff_exists.1 (by kernel_rfl)
  exact run_eql_ptr_same w a Tryz.underlying23 hj
theorem eqNilD (a : Addr) (w : World) : (binOp .eql 23 (.pointer none) (.pointer (some a))).run Tryz.prog w = .ok (.bool false) w :=
  eql_nil_ptr w a Tryz.underlying23
set_option maxHeartbeats 1000000 in
theorem given_nil (w : World) : Calls Tryz.prog 63 #[.pointer none] w fun e w' => e = .returned (.bool false) ∧ w' = w := by
  go_enter Tryz.func63, Tryz.ntmps63
  go_wp2
  go_ret
  exact ⟨rfl, rfl⟩
set_option maxHeartbeats 1000000 in
theorem given_zero (w : World) (d : Nat) (h : w.cell? ⟨d, 0, none⟩ = some (.pointer none)) : Calls Tryz.prog 63 #[.pointer (some ⟨d, 0, none⟩)] w fun e w' => e = .returned (.bool false) ∧ w' = w := by
  have hq := eqNilD ⟨d, 0, none⟩ w
  go_enter Tryz.func63, Tryz.ntmps63
  go_wp2
  go_ret
  exact ⟨rfl, rfl⟩
set_option maxHeartbeats 1000000 in
theorem given_ok (w : World) (d : Nat) (h : w.cell? ⟨d, 0, none⟩ = some (.pointer (some ⟨d, 0, none⟩))) : Calls Tryz.prog 63 #[.pointer (some ⟨d, 0, none⟩)] w fun e w' => e = .returned (.bool true) ∧ w' = w := by
  have hq := eqSelfD ⟨d, 0, none⟩ w
  go_enter Tryz.func63, Tryz.ntmps63
  go_wp2
  go_ret
  exact ⟨rfl, rfl⟩
/-- A disk that nobody gave: nil, or one whose self is nil. -/
def Nob (w : World) (v : Value) : Prop := v = .pointer none ∨ ∃ d, v = .pointer (some ⟨d, 0, none⟩) ∧ w.cell? ⟨d, 0, none⟩ = some (.pointer none)
theorem given_no (w : World) (v : Value) (h : Nob w v) : Calls Tryz.prog 63 #[v] w fun e w' => e = .returned (.bool false) ∧ w' = w := by
  rcases h with rfl | ⟨d, rfl, h⟩
  · exact given_nil w
  · exact given_zero w d h
set_option maxHeartbeats 1000000 in
theorem find_no (w : World) (v : Value) (h : Nob w v) (s : ByteArray) : Calls Tryz.prog 53 #[v, .string s] w fun e w' => e = .returned (.tuple #[.pointer none, .int .i64 1]) ∧ w' = w := by
  have HG : Hid (∀ _ : Unit, Calls Tryz.prog 63 #[v] w fun e w' => e = .returned (.bool false) ∧ w' = w) := fun _ => given_no w v h
  clear h
  go_enter Tryz.func53, Tryz.ntmps53
  go_wp2_with fail
  refine (HG.out ()).mono ?_
  rintro e w' ⟨rfl, rfl⟩
  go_wp2
  go_ret2
  exact ⟨rfl, rfl⟩
set_option maxHeartbeats 1000000 in
theorem find_none (w : World) (B d room bm : Nat) (M : List FR) (h : VM w B d room bm M) (s : ByteArray) (hm : May s) (hf : findF M s.data.toList = none) :
    Calls Tryz.prog 53 #[.pointer (some ⟨d, 0, none⟩), .string s] w fun e w' => e = .returned (.tuple #[.pointer none, .int .i64 3]) ∧ w' = w := by
  obtain ⟨c0, c1, c2⟩ := h.cells
  obtain ⟨es, hD, hp⟩ := h.own
  have hl := look_run hD hp h.apart s (by have := hm.2.1; unfold maxLen; omega)
  rw [hf] at hl
  simp only [ptrF] at hl
  have HG : Hid (∀ _ : Unit, Calls Tryz.prog 63 #[.pointer (some ⟨d, 0, none⟩)] w fun e w' => e = .returned (.bool true) ∧ w' = w) := fun _ => given_ok w d c0
  have HM : Hid (∀ _ : Unit, Calls Tryz.prog 77 #[.string s] w (MayEnd s w)) := fun _ => mayBe_ok w s
  have HMs : Hid (May s) := hm
  clear h hD hp hf hm
  go_enter Tryz.func53, Tryz.ntmps53
  go_wp2_with fail
  refine (HG.out ()).mono ?_
  rintro e w' ⟨rfl, rfl⟩
  go_wp2_with fail
  refine (HM.out ()).mono ?_
  rintro e w' ⟨b, rfl, rfl, hb⟩
  obtain rfl := hb HMs.out
  go_wp2
  go_ret2
  exact ⟨rfl, rfl⟩
set_option maxHeartbeats 1000000 in
theorem find_some (w : World) (B d room bm : Nat) (M : List FR) (h : VM w B d room bm M) (s : ByteArray) (hm : May s) (m : FR) (hf : findF M s.data.toList = some m) :
    Calls Tryz.prog 53 #[.pointer (some ⟨d, 0, none⟩), .string s] w fun e w' => e = .returned (.tuple #[.pointer (some ⟨m.blk, 0, none⟩), .int .i64 0]) ∧ w' = w := by
  obtain ⟨c0, c1, c2⟩ := h.cells
  obtain ⟨es, hD, hp⟩ := h.own
  have hl := look_run hD hp h.apart s (by have := hm.2.1; unfold maxLen; omega)
  rw [hf] at hl
  simp only [ptrF] at hl
  have HG : Hid (∀ _ : Unit, Calls Tryz.prog 63 #[.pointer (some ⟨d, 0, none⟩)] w fun e w' => e = .returned (.bool true) ∧ w' = w) := fun _ => given_ok w d c0
  have HM : Hid (∀ _ : Unit, Calls Tryz.prog 77 #[.string s] w (MayEnd s w)) := fun _ => mayBe_ok w s
  have HMs : Hid (May s) := hm
  obtain ⟨q, hq⟩ : ∃ q, m.blk = q := ⟨_, rfl⟩
  rw [hq] at hl ⊢
  clear h hD hp hf hm hq
  go_enter Tryz.func53, Tryz.ntmps53
  go_wp2_with fail
  refine (HG.out ()).mono ?_
  rintro e w' ⟨rfl, rfl⟩
  go_wp2_with fail
  refine (HM.out ()).mono ?_
  rintro e w' ⟨b, rfl, rfl, hb⟩
  obtain rfl := hb HMs.out
  go_wp2
  go_ret2
  exact ⟨rfl, rfl⟩
end Go.Proofs.YtcjlcieheepegaaGreatDoor.V8
