/- Layer 6: bytes of a text, numbers in four bits and more bytes, copies; what an unpacker's block holds. -/
import Derived.Test.YtbncfpbehahidaaChecked
import Derived.Tactics2
import Derived.WalkKit
import Derived.WalkLawsBesides
import Derived.WalkSpells
import Derived.Outline
import Derived.BigQuiet
import Derived.Deep.QuietTactic
import Derived.Deep.AppendLies
import Derived.Deep.RegionHeldLaw
import Derived.Deep.RegionLaw
import Derived.Laws.NewBlocks
import Derived.LoopN
import Derived.Deep.OwnRows
import Derived.RowKit3
import Derived.Laws.AppendOwn
import Derived.Laws.OwnMore
import Derived.Laws.IdiomStrings
import Derived.Lib.AppendStr
import Derived.OwnWalk
import Derived.ProofKit
namespace Go.Proofs.Ytbncfpbehahidaa
open Go.RowKit
set_option linter.unusedVariables false

/-- Numbers below 256 as a text. -/
def toBA (l : List Nat) : ByteArray := ⟨(l.map UInt8.ofNat).toArray⟩
def bcells (l : List Nat) : List Value := l.map fun x => Value.int .u8 (x : Nat)
def bt (s : ByteArray) (i : Nat) : Nat := (s.data.toList.getD i 0).toNat
def bytesOf (s : ByteArray) : List Nat := s.data.toList.map UInt8.toNat
def Bytes (l : List Nat) : Prop := ∀ x ∈ l, x < 256
theorem bt_lt (s : ByteArray) (i : Nat) : bt s i < 256 := UInt8.toNat_lt _
theorem bytesOf_bytes (s : ByteArray) : Bytes (bytesOf s) := by
  intro x hx
  obtain ⟨y, _, rfl⟩ := List.mem_map.1 hx
  exact UInt8.toNat_lt y
theorem bytesOf_length (s : ByteArray) : (bytesOf s).length = s.size := by simp [bytesOf]
theorem Bytes.append {l m : List Nat} (h : Bytes l) (k : Bytes m) : Bytes (l ++ m) := by
  intro x hx; rcases List.mem_append.1 hx with hx | hx
  · exact h x hx
  · exact k x hx
theorem toBA_size (l : List Nat) : (toBA l).size = l.length := by simp [toBA, ByteArray.size]
theorem bytesOf_toBA (l : List Nat) (h : Bytes l) : bytesOf (toBA l) = l := by
  unfold bytesOf toBA
  simp only [List.map_map]
  conv => rhs; rw [← List.map_id l]
  refine List.map_congr_left fun x hx => ?_
  have := h x hx
  simp
  omega
theorem toBA_bytesOf (s : ByteArray) : toBA (bytesOf s) = s := by
  unfold bytesOf toBA
  rw [List.map_map]
  have : (UInt8.ofNat ∘ UInt8.toNat) = id := by funext x; simp
  rw [this, List.map_id]
theorem bt_toBA (l : List Nat) (h : Bytes l) (i : Nat) : bt (toBA l) i = l.getD i 0 := by
  unfold bt toBA
  rw [List.getD_eq_getElem?_getD, List.getD_eq_getElem?_getD]
  by_cases hi : i < l.length
  · have := h _ (List.getElem_mem hi)
    simp [hi]
    omega
  · simp [hi]
theorem bcells_length (l : List Nat) : (bcells l).length = l.length := by simp [bcells]
theorem bcells_append (l m : List Nat) : bcells (l ++ m) = bcells l ++ bcells m := by simp [bcells]
theorem strCells_eq (s : ByteArray) : Lib.strCells s = bcells (bytesOf s) := by simp [Lib.strCells, bcells, bytesOf]
theorem wrapN (T : Nat) (h : T ≤ 4611686018427387904) : IntKind.i64.wrap (T : Int) = (T : Int) := by rw [IntKind.wrap_i64]; omega
theorem add_zero_addr (g j : Nat) : (⟨g, 0, none⟩ : Addr).add j = ⟨g, j, none⟩ := by
  unfold Addr.add; split
  · subst_vars; rfl
  · simp
theorem news1 (W : World) (p : Value) (t : TypeId) : ∀ j u, [p][j]? = some u → (W.alloc (.cells #[p] t)).cell? ((⟨W.heap.size, 0, none⟩ : Addr).add j) = some u := by
  intro j u h
  rw [add_zero_addr]
  have hj : j = 0 := by
    have := (List.getElem?_eq_some_iff.1 h).1
    simp at this; omega
  subst hj
  have e : u = p := by simpa using h.symm
  subst e
  unfold World.cell?
  rw [heap_alloc_new]
  rfl
theorem oneB (x : Int) : ∀ u ∈ [Value.int .u8 x], u.oneCell' = true := by
  intro u hu; simp at hu; subst hu; rfl
theorem infoB : (Try.prog.info? 5).map (fun i => (i.zero, i.size, i.bytes)) = some (some (.int .u8 0), 1, 1) := by kernel_rfl
theorem conv_row {P : Program} (w : World) (src dst e : TypeId) (B : Nat) (v : Value) (l : List Nat) (hs : P.underlying src = some (.slice e)) (he : P.underlying e = some (.int .u8)) (hd : P.underlying dst = some .string)
    (hown : w.ownsRow B e 1 v l.length (bcells l)) (hl : ∀ x ∈ l, x < 256) : (convert src dst v).run P w = .ok (.string (toBA l)) w := by
  rcases hown.2 with ⟨rfl, h0⟩ | ⟨g, cap, cur, rfl, hB, hh, hnc, hcm, hcs, htk⟩
  · have : l = [] := List.length_eq_zero_iff.1 h0
    subst this
    rw [run_convert_bytes_string w src dst e none 0 0 hs he hd]
    simp [Conv.bytesToString]
    rfl
  · have hlen : (l.map UInt8.ofNat).length = l.length := by simp
    have := run_convert_bytes_back (P := P) w src dst e ⟨g, 0, none⟩ cap (l.map UInt8.ofNat) hs he hd (fun j hj => by
      have hj' : j < l.length := by simpa using hj
      have hx := hl l[j] (List.getElem_mem hj')
      refine hown.cells (g := g) rfl j _ ?_
      simp [bcells, List.getElem?_eq_getElem hj']
      omega)
    rw [hlen] at this
    exact this
theorem block_setCell {w : World} {b i : Nat} {cs : Array Value} {t : TypeId} {u : Value} (h : w.heap[b]? = some (.cells cs t (0, 0))) : (w.setCell ⟨b, i, none⟩ u).heap[b]? = some (.cells (cs.setIfInBounds i u) t (0, 0)) := by
  have hlt := lt_of_block h
  have h' : w.heap[b] = .cells cs t (0, 0) := by simpa [Array.getElem?_eq_getElem hlt] using h
  show (w.heap.modify b _)[b]? = _
  rw [Array.getElem?_eq_getElem (by simpa using hlt), Array.getElem_modify_self, h']
  rfl
theorem kept_row {w w' : World} {B b size n : Nat} {E T : TypeId} {v : Value} {xs : List Value} {cs : Array Value} {mk : Nat × Nat} (hbl : w.heap[b]? = some (.cells cs T mk)) (hT : T ≠ E) (hown : w.ownsRow B E size v n xs) (hg : w.grownBy w' v.ownBlock) : w'.heap[b]? = w.heap[b]? :=
  hg.block b (lt_of_block hbl) (fun e => by
    rcases hown.2 with ⟨rfl, _⟩ | ⟨g, cap, cur, rfl, hB, hh, _⟩
    · simp [Value.ownBlock] at e
    · have e' : b = g := by simpa [Value.ownBlock] using e
      subst e'; rw [hbl] at hh; cases hh; exact hT rfl)
theorem Below.grown {B size n : Nat} {E : TypeId} {w w' : World} {v : Value} {xs : List Value} (hown : w.ownsRow B E size v n xs) (hg : w.grownBy w' v.ownBlock) (hB : B ≤ w.heap.size) : Below B w w' :=
  ⟨hg.os, hg.tape, hg.output, hg.size, fun k hk => hg.block k (by omega) (fun e => by have := (hown.lt k e.symm).1; omega)⟩
theorem Below.setCell' {B b i : Nat} (w : World) (u : Value) (hB : B ≤ b) : Below B w (w.setCell ⟨b, i, none⟩ u) :=
  ⟨rfl, rfl, rfl, by simp [World.setCell], fun k hk => Below.heap_setCell _ _ _ _ (by show k ≠ b; omega)⟩

/-- More bytes of a text, appended at a step of a region that draws its order. -/
theorem step_append_string {P : Program} (w : World) {ops : Array Oper} {o : Oper} {a : Act} {K : Act → World → Prop} {Q : Exit → Act → World → Prop} {E : Prop} (hgd : o.guard = none) (sl x : Operand) (t u : TypeId)
    (ho : o.op = .call { callee := .builtin .append, args := #[sl, x], argTypes := #[t, u] })
    (base : Nat) (e : TypeId) (i : TypeInfo) (ht : P.underlying t = some (.slice e)) (hu : P.underlying u = some .string) (hi : P.info? e = some i) (hz : i.zero = some (.int .u8 0))
    (hsize : i.size = 1) (hby : i.bytes = 1)
    (v : Value) (n : Nat) (xs : List Value) (hs : a.eval sl = v) (hown : w.ownsRow base e 1 v n xs) (s : ByteArray) (hx : a.eval x = .string s)
    (h63 : n + s.size ≤ maxLen) (hbytes : n + s.size ≤ 140737488355328) (hbase : base ≤ w.heap.size)
    (h : ∀ v' w', w'.ownsRow base e 1 v' (n + s.size) (xs ++ Lib.strCells s) → w.grownBy w' v.ownBlock → K (a.put o.dst v') w') :
    if Region.wanted o (yielded ops a.tmps) = true then Oper.wp P o a w K Q else E := by
  have hw : Region.wanted o (yielded ops a.tmps) = true := by simp [Region.wanted, hgd]
  rw [if_pos hw]
  obtain ⟨v', w', hr, h2, h3, h4⟩ := Lib.run_append_own_string (P := P) w base t u o.type e i ht hu hi hz hsize hby v n xs hown s h63 hbytes hbase
  unfold Oper.wp execOp
  simp only [ho, resolve, invoke, builtin, Sem.run_bind, Sem.run_pure, Result.andThen_ok, List.map_toArray, List.map_cons, List.map_nil, hs, hx, hr]
  exact h v' w' h2 h3
/-- The number that n begins, of the bytes from a place on: an error, the number, the place behind. -/
def numF (s : ByteArray) : Nat → Nat → Nat → Nat × Nat × Nat
  | 0, a, _ => (5, 0, a)
  | f + 1, a, n => if bt s a < 255 then (0, n + bt s a, a + 1) else numF s f (a + 1) (n + bt s a)
def numW (s : ByteArray) (a n : Nat) : Nat × Nat × Nat := numF s (s.size - a) a n
theorem numW_end (s : ByteArray) (a n : Nat) (h : s.size ≤ a) : numW s a n = (5, 0, a) := by
  unfold numW
  rw [Nat.sub_eq_zero_of_le h]; rfl
theorem numW_step (s : ByteArray) (a n : Nat) (h : a < s.size) : numW s a n = if bt s a < 255 then (0, n + bt s a, a + 1) else numW s (a + 1) (n + bt s a) := by
  unfold numW
  have e : s.size - a = (s.size - (a + 1)) + 1 := by omega
  rw [e]; rfl
def numB (s : ByteArray) (a n : Nat) : Nat × Nat × Nat := if n < 15 then (0, n, a) else numW s a n
theorem numF_le (s : ByteArray) : ∀ (f a n : Nat), (numF s f a n).2.1 ≤ n + 255 * f ∧ a ≤ (numF s f a n).2.2 ∧ (numF s f a n).2.2 ≤ a + f ∧ ((numF s f a n).1 = 0 ∨ (numF s f a n).1 = 5) ∧ ((numF s f a n).1 = 0 → n ≤ (numF s f a n).2.1)
  | 0, a, n => by simp [numF]
  | f + 1, a, n => by
    have h1 := bt_lt s a
    have h2 := numF_le s f (a + 1) (n + bt s a)
    unfold numF
    split
    · simp; omega
    · refine ⟨?_, ?_, ?_, h2.2.2.2.1, fun h => ?_⟩
      · have := h2.1; omega
      · have := h2.2.1; omega
      · have := h2.2.2.1; omega
      · have := h2.2.2.2.2 h; omega
theorem numB_le (s : ByteArray) (a n : Nat) (ha : a ≤ s.size) : (numB s a n).2.1 ≤ n + 255 * s.size ∧ a ≤ (numB s a n).2.2 ∧ (numB s a n).2.2 ≤ s.size ∧ ((numB s a n).1 = 0 ∨ (numB s a n).1 = 5) ∧ ((numB s a n).1 = 0 → n ≤ (numB s a n).2.1) := by
  unfold numB
  split
  · simp; omega
  · have h := numF_le s (s.size - a) a n
    unfold numW
    refine ⟨?_, h.2.1, ?_, h.2.2.2.1, h.2.2.2.2⟩
    · have := h.1; omega
    · have := h.2.2.1; omega
/-- A copy, byte by byte. -/
def copyL (d : Nat) : Nat → List Nat → List Nat
  | 0, l => l
  | n + 1, l => copyL d n (l ++ [l.getD (l.length - d) 0])
theorem copyL_succ (d : Nat) : ∀ (n : Nat) (l : List Nat), copyL d (n + 1) l = copyL d n l ++ [(copyL d n l).getD ((copyL d n l).length - d) 0]
  | 0, l => rfl
  | n + 1, l => by
    have := copyL_succ d n (l ++ [l.getD (l.length - d) 0])
    exact this
theorem copyL_length (d : Nat) : ∀ (n : Nat) (l : List Nat), (copyL d n l).length = l.length + n
  | 0, l => rfl
  | n + 1, l => by
    show (copyL d n (l ++ [l.getD (l.length - d) 0])).length = _
    rw [copyL_length d n, List.length_append, List.length_singleton]; omega
theorem copyL_bytes {d : Nat} : ∀ (n : Nat) {l : List Nat}, Bytes l → Bytes (copyL d n l)
  | 0, l, h => h
  | n + 1, l, h => copyL_bytes n (fun x hx => by
    rcases List.mem_append.1 hx with h1 | h1
    · exact h x h1
    · rw [List.mem_singleton.1 h1, List.getD_eq_getElem?_getD]
      by_cases hi : l.length - d < l.length
      · rw [List.getElem?_eq_getElem hi]; exact h _ (List.getElem_mem hi)
      · rw [List.getElem?_eq_none (by omega)]; simp)
/-- Plain bytes: an error, the place behind, the plain bytes. -/
def plainF (s : ByteArray) (most a : Nat) (l : List Nat) (n : Nat) : Nat × Nat × List Nat :=
  if (numB s a n).1 ≠ 0 then ((numB s a n).1, a, l)
  else if most < l.length + (numB s a n).2.1 then (4, a, l)
  else if s.size < (numB s a n).2.2 + (numB s a n).2.1 then (5, a, l)
  else (0, (numB s a n).2.2 + (numB s a n).2.1, l ++ bytesOf (s.extract (numB s a n).2.2 ((numB s a n).2.2 + (numB s a n).2.1)))
/-- How far back: an error, the distance, the place behind. -/
def distF (s : ByteArray) (a : Nat) (l : List Nat) : Nat × Nat × Nat :=
  if s.size < a + 2 then (5, 0, a) else if bt s a + 256 * bt s (a + 1) = 0 ∨ l.length < bt s a + 256 * bt s (a + 1) then (60, 0, a) else (0, bt s a + 256 * bt s (a + 1), a + 2)
/-- A copy: an error, the place behind, the plain bytes. -/
def copyF (s : ByteArray) (most a : Nat) (l : List Nat) (n : Nat) : Nat × Nat × List Nat :=
  if (distF s a l).1 ≠ 0 then ((distF s a l).1, a, l)
  else if (numB s (a + 2) n).1 ≠ 0 then ((numB s (a + 2) n).1, a, l)
  else if most < l.length + ((numB s (a + 2) n).2.1 + 4) then (4, a, l)
  else (0, (numB s (a + 2) n).2.2, copyL (distF s a l).2.1 ((numB s (a + 2) n).2.1 + 4) l)
/-- A sequence: an error, is it the last, the place behind, the plain bytes. -/
def seqF (s : ByteArray) (most a : Nat) (l : List Nat) : Nat × Bool × Nat × List Nat :=
  if s.size ≤ a then (5, false, a, l)
  else if (plainF s most (a + 1) l (bt s a / 16)).1 ≠ 0 then ((plainF s most (a + 1) l (bt s a / 16)).1, false, a, l)
  else if (plainF s most (a + 1) l (bt s a / 16)).2.1 = s.size then (0, true, (plainF s most (a + 1) l (bt s a / 16)).2)
  else if (copyF s most (plainF s most (a + 1) l (bt s a / 16)).2.1 (plainF s most (a + 1) l (bt s a / 16)).2.2 (bt s a % 16)).1 ≠ 0 then ((copyF s most (plainF s most (a + 1) l (bt s a / 16)).2.1 (plainF s most (a + 1) l (bt s a / 16)).2.2 (bt s a % 16)).1, false, a, l)
  else (0, false, (copyF s most (plainF s most (a + 1) l (bt s a / 16)).2.1 (plainF s most (a + 1) l (bt s a / 16)).2.2 (bt s a % 16)).2)
/-- The plain bytes, or why there are none. -/
def unpF (s : ByteArray) (most : Nat) : Nat → Nat → List Nat → Nat × List Nat
  | 0, _, _ => (5, [])
  | k + 1, a, l => if (seqF s most a l).1 ≠ 0 then ((seqF s most a l).1, []) else if (seqF s most a l).2.1 then (0, (seqF s most a l).2.2.2) else unpF s most k (seqF s most a l).2.2.1 (seqF s most a l).2.2.2
def unpack (s : ByteArray) (most : Nat) : Nat × List Nat := unpF s most (s.size + 1) 0 []

/-- Block u is an unpacker of the bytes s, ahead of byte a, that has told the plain bytes l (they lie from block B on). -/
structure LU (w : World) (B u : Nat) (s : ByteArray) (a : Nat) (l : List Nat) (most : Nat) (v : Value) : Prop where
  blk : w.heap[u]? = some (.cells #[.string s, .int .i64 (a : Nat), v, .int .i64 (most : Nat)] 82 (0, 0))
  own : w.ownsRow B 5 1 v l.length (bcells l)
  le : a ≤ s.size
  small : s.size ≤ 281474976710656
  hB : B ≤ u
theorem LU.cells {w : World} {B u : Nat} {s : ByteArray} {a : Nat} {l : List Nat} {most : Nat} {v : Value} (h : LU w B u s a l most v) :
    w.cell? ⟨u, 0, none⟩ = some (.string s) ∧ w.cell? ⟨u, 1, none⟩ = some (.int .i64 (a : Nat)) ∧ w.cell? ⟨u, 2, none⟩ = some v ∧ w.cell? ⟨u, 3, none⟩ = some (.int .i64 (most : Nat)) ∧ w.frozen? ⟨u, 1, none⟩ = false ∧ w.frozen? ⟨u, 2, none⟩ = false := by
  have h1 := h.blk
  exact ⟨by simp [World.cell?, h1], by simp [World.cell?, h1], by simp [World.cell?, h1], by simp [World.cell?, h1], by simp [World.frozen?, h1], by simp [World.frozen?, h1]⟩
theorem LU.form {w : World} {B u : Nat} {s : ByteArray} {a : Nat} {l : List Nat} {most : Nat} {v : Value} (h : LU w B u s a l most v) : ∃ ao cp, v = .slice ao l.length cp := by
  rcases h.own.2 with ⟨e, h0⟩ | ⟨g, cap, cur, e, _⟩
  · exact ⟨none, 0, by rw [e, h0]⟩
  · exact ⟨_, _, e⟩
theorem LU.drewN {w : World} {B u : Nat} {s : ByteArray} {a : Nat} {l : List Nat} {most : Nat} {v : Value} (h : LU w B u s a l most v) (k : Nat) : LU (w.drewN k) B u s a l most v := ⟨h.blk, h.own, h.le, h.small, h.hB⟩
theorem ownsRow_set {w : World} {B u i n : Nat} {E T : TypeId} {v x : Value} {xs : List Value} {cs : Array Value} {mk : Nat × Nat} (h : w.ownsRow B E 1 v n xs) (hbl : w.heap[u]? = some (.cells cs T mk)) (hT : T ≠ E) : (w.setCell ⟨u, i, none⟩ x).ownsRow B E 1 v n xs := by
  refine ⟨h.1, ?_⟩
  rcases h.2 with e | ⟨g, cap, cur, e1, e2, e3, e4⟩
  · exact .inl e
  · refine .inr ⟨g, cap, cur, e1, e2, ?_, e4⟩
    have hgu : g ≠ u := by rintro rfl; rw [hbl] at e3; cases e3; exact hT rfl
    rw [Below.heap_setCell _ _ _ _ hgu]; exact e3
theorem LU.moved {w : World} {B u : Nat} {s : ByteArray} {a : Nat} {l : List Nat} {most : Nat} {v : Value} (h : LU w B u s a l most v) (q : Nat) (hq : q ≤ s.size) : LU (w.setCell ⟨u, 1, none⟩ (.int .i64 (q : Nat))) B u s q l most v ∧ Below B w (w.setCell ⟨u, 1, none⟩ (.int .i64 (q : Nat))) :=
  ⟨⟨block_setCell (i := 1) h.blk, ownsRow_set h.own h.blk (by decide), hq, h.small, h.hB⟩, Below.setCell' w _ h.hB⟩
/-- More plain bytes were appended. -/
theorem LU.grow {w w1 : World} {B u : Nat} {s : ByteArray} {a : Nat} {l m : List Nat} {most : Nat} {v v1 : Value} (h : LU w B u s a l most v) (hown : w1.ownsRow B 5 1 v1 (l.length + m.length) (bcells l ++ bcells m)) (hg : w.grownBy w1 v.ownBlock) :
    w1.cell? ⟨u, 1, none⟩ = some (.int .i64 (a : Nat)) ∧ w1.cell? ⟨u, 2, none⟩ = some v ∧ w1.frozen? ⟨u, 2, none⟩ = false ∧ (∃ ao ln cp, v1 = .slice ao ln cp) ∧ LU (w1.setCell ⟨u, 2, none⟩ v1) B u s a (l ++ m) most v1 ∧ Below B w (w1.setCell ⟨u, 2, none⟩ v1) := by
  have hbl := (kept_row h.blk (by decide) h.own hg).trans h.blk
  have hBw : B ≤ w.heap.size := Nat.le_trans h.hB (Nat.le_of_lt (lt_of_block h.blk))
  refine ⟨by simp [World.cell?, hbl], by simp [World.cell?, hbl], by simp [World.frozen?, hbl], ?_, ⟨block_setCell (i := 2) hbl, ?_, h.le, h.small, h.hB⟩, (Below.grown h.own hg hBw).trans (Below.setCell' w1 _ h.hB)⟩
  · rcases hown.2 with ⟨rfl, _⟩ | ⟨g, cap, cur, rfl, _⟩
    · exact ⟨_, _, _, rfl⟩
    · exact ⟨_, _, _, rfl⟩
  · rw [List.length_append, bcells_append]
    exact ownsRow_set hown hbl (by decide)
theorem LU.byte {w : World} {B u : Nat} {s : ByteArray} {a : Nat} {l : List Nat} {most : Nat} {v : Value} (h : LU w B u s a l most v) {i : Nat} (hi : i < l.length) :
    ∃ g cp, v = .slice (some ⟨g, 0, none⟩) l.length cp ∧ w.cell? ⟨g, i, none⟩ = some (.int .u8 (l.getD i 0 : Nat)) := by
  obtain ⟨g, cp, e, _, _⟩ := h.own.form (by omega)
  refine ⟨g, cp, e, ?_⟩
  have h1 := h.own.cells (g := g) (by rw [e]; rfl) i (.int .u8 (l.getD i 0 : Nat)) (by simp [bcells, hi])
  rw [add_zero_addr] at h1
  exact h1
end Go.Proofs.Ytbncfpbehahidaa
