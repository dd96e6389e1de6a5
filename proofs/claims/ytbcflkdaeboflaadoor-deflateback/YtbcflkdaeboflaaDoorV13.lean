/- A block whose bytes are stored. -/
/- An unpacker's symbols, lengths and distances. -/
/- How long a copy is, and from how far. -/
/- A copy, byte by byte. -/
/- Symbols up to a block's end. -/
/- Symbols up to a block's end: the walk. -/
/- The fixed codes. -/
/- The fixed codes, made once. -/
/- One block. -/
import Derived.Test.YtbcflkdaeboflaaDoorV12
import Derived.Lib.AppendStr
import Derived.Test.YtbcflkdaeboflaaDoorV08
import Derived.Deep.RegionWith
namespace Go.Proofs.YtbcflkdaeboflaaDoor
open Go.RowKit
set_option linter.unusedVariables false
set_option maxRecDepth 20000

/-- w' is w at the blocks of K. -/
structure UF (K : Nat → Prop) (w w' : World) : Prop where
  os : w'.os = w.os
  tape : w'.tape = w.tape
  output : w'.output = w.output
  size : w.heap.size ≤ w'.heap.size
  block : ∀ k, K k → w'.heap[k]? = w.heap[k]?
theorem UF.refl (K : Nat → Prop) (w : World) : UF K w w := ⟨rfl, rfl, rfl, Nat.le_refl _, fun _ _ => rfl⟩
theorem UF.trans {K : Nat → Prop} {x y z : World} (h : UF K x y) (k : UF K y z) : UF K x z :=
  ⟨k.os.trans h.os, k.tape.trans h.tape, k.output.trans h.output, Nat.le_trans h.size k.size, fun i hi => (k.block i hi).trans (h.block i hi)⟩
theorem UF.only {K : Nat → Prop} {b : Nat} {w w' : World} (h : Only b w w') (hk : ∀ k, K k → k < w.heap.size) (hb : ¬ K b) : UF K w w' := ⟨h.os, h.tape, h.output, h.size, fun k hl => h.block k (hk k hl) (fun e => hb (e ▸ hl))⟩
theorem UF.less {K K' : Nat → Prop} {w w' : World} (h : UF K w w') (hk : ∀ k, K' k → K k) : UF K' w w' := ⟨h.os, h.tape, h.output, h.size, fun k hl => h.block k (hk k hl)⟩
theorem UF.drewN (K : Nat → Prop) (w : World) (k : Nat) : UF K w (w.drewN k) := ⟨rfl, rfl, rfl, Nat.le_refl _, fun _ _ => rfl⟩
theorem infoB : (Tryd.prog.info? 5).map (fun i => (i.zero, i.size, i.bytes)) = some (some (.int .u8 0), 1, 1) := by kernel_rfl
theorem bcells_length (l : List Nat) : (bcells l).length = l.length := by simp [bcells]
theorem bcells_append (l m : List Nat) : bcells (l ++ m) = bcells l ++ bcells m := by simp [bcells]
theorem kept_row {w w' : World} {B b size n : Nat} {E T : TypeId} {v : Value} {xs : List Value} {cs : Array Value} {mk : Nat × Nat} (hbl : w.heap[b]? = some (.cells cs T mk)) (hT : T ≠ E) (hown : w.ownsRow B E size v n xs) (hg : w.grownBy w' v.ownBlock) : w'.heap[b]? = w.heap[b]? :=
  hg.block b (lt_of_block hbl) (fun e => by
    rcases hown.2 with ⟨rfl, _⟩ | ⟨g, cap, cur, rfl, hB, hh, _⟩
    · simp [Value.ownBlock] at e
    · have e' : b = g := by simpa [Value.ownBlock] using e
      subst e'; rw [hbl] at hh; cases hh; exact hT rfl)
theorem UF.grown {K : Nat → Prop} {w w' : World} {v : Value} (hg : w.grownBy w' v.ownBlock) (hk : ∀ k, K k → k < w.heap.size) (ho : ∀ g, v.ownBlock = some g → ¬ K g) : UF K w w' :=
  ⟨hg.os, hg.tape, hg.output, hg.size, fun k hl => hg.block k (hk k hl) (fun e => ho k e.symm hl)⟩
theorem string_lies {P : Program} (w : World) (t u ty e : TypeId) (i : TypeInfo) (ht : P.underlying t = some (.slice e)) (hu : P.underlying u = some .string) (hi : P.info? e = some i) (hz : i.zero = some (.int .u8 0))
    (hsize : i.size = 1) (hby : i.bytes = 1) (v : Value) (n : Nat) (xs : List Value) (hown : w.ownsRow 0 e 1 v n xs) (s : ByteArray) (h63 : n + s.size ≤ maxLen) (hbytes : n + s.size ≤ 140737488355328) (v' : Value) (w' : World)
    (hr : (Builtin.append_ #[t, u] ty #[v, .string s]).run P w = .ok v' w') : v'.ownBlock = v.ownBlock ∨ v'.ownBlock = some w.heap.size := by
  have hsmall : n + s.size ≤ 9223372036854775807 := by simp only [maxLen] at h63; omega
  have hxl : xs.length = n := by simpa using hown.1
  rcases hown.2 with ⟨rfl, rfl⟩ | ⟨g, cap, cur, rfl, hbg, hg, hnc, hcm, hcs, htake⟩
  · by_cases hm : s.size = 0
    · have hf := Lib.run_firstCells_string (P := P) w 1 s
      have hn : Lib.strCells s = [] := List.eq_nil_of_length_eq_zero (by rw [Lib.strCells_length]; exact hm)
      rw [hm, hn] at hf
      simp [Builtin.append_, run_underlying ht, run_underlying hu, sizeOf, typeInfo, hi, hsize, Builtin.lenOf, hm, hf] at hr
      left; rw [← hr.1]
    · rw [run_append_nil_string (P := P) w t u ty e i (.int .u8 0) ht hu hi hz s (by omega) (by omega) (by rw [hby]; omega)] at hr
      right; injection hr with h1 h2; rw [← h1]; rfl
  · by_cases hroom : n + s.size ≤ cap
    · have hcs' : cur.size = cap := by simpa using hcs
      rw [Lib.run_append_room_string (P := P) w t u ty e i ht hu hi hsize g n cap cur hg s hroom (by omega)] at hr
      left; injection hr with h1 h2; rw [← h1]; rfl
    · have holds : ∀ j u, xs[j]? = some u → w.cell? ((⟨g, 0, none⟩ : Addr).add j) = some u := hown.cells (g := g) rfl
      rw [Lib.run_append_grow_string (P := P) w t u ty e i (.int .u8 0) ht hu hi hz ⟨g, 0, none⟩ n cap xs (by rw [hsize]; simpa using hxl) holds s (by omega) (by omega) (by rw [hby]; exact growslice_fits (by omega) (by omega))] at hr
      right; injection hr with h1 h2; rw [← h1]; rfl
theorem wpList_string_lies {P : Program} (w : World) {ops : Array Oper} {rest : List Oper} {o : Oper} {a : Act} {Q : Exit → Act → World → Prop} (hgd : o.guard = none) (sl x : Operand) (t u : TypeId)
    (ho : o.op = .call { callee := .builtin .append, args := #[sl, x], argTypes := #[t, u] })
    (e : TypeId) (i : TypeInfo) (ht : P.underlying t = some (.slice e)) (hu : P.underlying u = some .string) (hi : P.info? e = some i) (hz : i.zero = some (.int .u8 0))
    (hsize : i.size = 1) (hby : i.bytes = 1)
    (v : Value) (n : Nat) (xs : List Value) (hs : a.eval sl = v) (hown : w.ownsRow 0 e 1 v n xs) (s : ByteArray) (hx : a.eval x = .string s)
    (h63 : n + s.size ≤ maxLen) (hbytes : n + s.size ≤ 140737488355328)
    (h : ∀ v' w', w'.ownsRow 0 e 1 v' (n + s.size) (xs ++ Lib.strCells s) → w.grownBy w' v.ownBlock → (v'.ownBlock = v.ownBlock ∨ v'.ownBlock = some w.heap.size) → wpList P ops Q rest (a.put o.dst v') w') : wpList P ops Q (o :: rest) a w := by
  refine wpList_plain hgd fun K hK => ?_
  obtain ⟨v', w', hr, h2, h3, h4⟩ := Lib.run_append_own_string (P := P) w 0 t u o.type e i ht hu hi hz hsize hby v n xs hown s h63 hbytes (Nat.zero_le _)
  have h5 := string_lies w t u o.type e i ht hu hi hz hsize hby v n xs hown s h63 hbytes v' w' hr
  unfold Oper.wp execOp
  simp only [ho, resolve, invoke, builtin, Sem.run_bind, Sem.run_pure, Result.andThen_ok, List.map_toArray, List.map_cons, List.map_nil, hs, hx, hr]
  exact hK _ _ (h v' w' h2 h3 h5)
/-- What comes of a stored block: an error, or the place behind it and the plain bytes. -/
def storedF (s : ByteArray) (p : Nat) (l : List Nat) (most : Nat) : Nat × Nat × List Nat :=
  let q := (p + 7) / 8 * 8
  if 8 * s.size < q + 16 then (5, p, l) else if 8 * s.size < q + 32 then (5, p, l)
  else if num s q 16 ^^^ num s (q + 16) 16 ≠ 65535 then (40, p, l) else if most < l.length + num s q 16 then (4, p, l)
  else if 8 * s.size < q + 32 + 8 * num s q 16 then (5, p, l)
  else (0, q + 32 + 8 * num s q 16, l ++ ((s.extract ((q + 32) / 8) ((q + 32) / 8 + num s q 16)).data.toList.map UInt8.toNat))
theorem i64_xor_nat (a b : Nat) (ha : a < 9223372036854775808) (hb : b < 9223372036854775808) : bits .xor .i64 (a : Int) (b : Int) = ((a ^^^ b : Nat) : Int) := by
  have hx : a ^^^ b < 2 ^ 63 := Nat.xor_lt_two_pow (by omega) (by omega)
  show IntKind.i64.wrap ((BitVec.ofInt 64 (a : Int) ^^^ BitVec.ofInt 64 (b : Int)).toNat : Int) = _
  rw [BitVec.toNat_xor, ofInt_u64 a (by omega), ofInt_u64 b (by omega), IntKind.wrap_i64]
  omega
end Go.Proofs.YtbcflkdaeboflaaDoor
namespace Go.Proofs.YtbcflkdaeboflaaDoor
open Go.RowKit
set_option linter.unusedVariables false
set_option maxRecDepth 20000

/-- Within a region that draws its order: a way that ends here. -/
theorem way_ends {G : Prop} (a : Act) (w : World) (h : G) : wpAny Tryd.prog .any #[] (fun _ _ _ => True) 0 #[] a w → G := fun _ => h
theorem wrapN (T : Nat) (h : T ≤ 4611686018427387904) : IntKind.i64.wrap (T : Int) = (T : Int) := by rw [IntKind.wrap_i64]; omega
theorem wrapN64 (T : Nat) (h : T ≤ 4611686018427387904) : wrap64 (T : Int) = (T : Int) := by unfold wrap64; omega
def ub (s : ByteArray) (p n : Nat) : Nat × Nat × Nat := if 8 * s.size < p + n then (5, p, 0) else (0, p + n, num s p n)
/-- A table that nobody turns. -/
def TabK (w : World) (K : Nat → Prop) (t : Nat) (ns : List Nat) : Prop := ∃ lo hi R, Tab w lo hi t ns R ∧ (∀ k, lo ≤ k → k < hi → K k) ∧ ns.length ≤ 288 ∧ ew ns 15 ≤ 32768
theorem TabK.keep {w w' : World} {K : Nat → Prop} {t : Nat} {ns : List Nat} (h : TabK w K t ns) (hf : UF K w w') : TabK w' K t ns := by
  obtain ⟨lo, hi, R, h1, h2, h3⟩ := h
  exact ⟨lo, hi, R, h1.keep (fun k a c => hf.block k (h2 k a c)), h2, h3⟩
theorem TabK.more {w : World} {K K' : Nat → Prop} {t : Nat} {ns : List Nat} (h : TabK w K t ns) (hk : ∀ k, K k → K' k) : TabK w K' t ns := by
  obtain ⟨lo, hi, R, h1, h2, h3⟩ := h
  exact ⟨lo, hi, R, h1, fun k a c => hk k (h2 k a c), h3⟩
def usym (ns : List Nat) (s : ByteArray) (p : Nat) : Nat × Nat × Nat :=
  if (rd ns s p).2.2 = 30 then (40, p, 0) else if (rd ns s p).2.2 = 0 then (0, p + (rd ns s p).2.1, (rd ns s p).1) else ((rd ns s p).2.2, p, 0)
/-- A symbol's number, with the bits behind it. -/
def ustep (s : ByteArray) (p y st : Nat) : Nat × Nat × Nat :=
  if y < st then (0, p, y) else ((ub s p (y / st - 1)).1, (ub s p (y / st - 1)).2.1, (st + y % st) * 2 ^ (y / st - 1) + (ub s p (y / st - 1)).2.2)
end Go.Proofs.YtbcflkdaeboflaaDoor
namespace Go.Proofs.YtbcflkdaeboflaaDoor
open Go.RowKit
set_option linter.unusedVariables false
set_option maxRecDepth 20000

theorem ustep_le (s : ByteArray) (p y st : Nat) (hy : y < 32) (h2 : 2 ≤ st) (h4 : st ≤ 4) : (ustep s p y st).2.2 ≤ 400000 := by
  unfold ustep
  by_cases hlt : y < st
  · rw [if_pos hlt]; show y ≤ _; omega
  · rw [if_neg hlt]
    have hqb : y / st ≤ 16 := Nat.le_trans (Nat.div_le_div_left h2 (by omega)) (by omega)
    obtain ⟨m, hm⟩ : ∃ m, y / st - 1 = m := ⟨_, rfl⟩
    have hmb : m ≤ 15 := by omega
    have hmd : y % st < st := Nat.mod_lt _ (by omega)
    rw [hm]
    show (st + y % st) * 2 ^ m + (ub s p m).2.2 ≤ 400000
    have hx : (ub s p m).2.2 ≤ 65536 := by
      unfold ub
      split
      · exact Nat.zero_le _
      · exact Nat.le_of_lt (Nat.lt_of_lt_of_le (num_lt s p m) (Nat.pow_le_pow_right (by decide) (show m ≤ 16 by omega)))
    have hP : (st + y % st) * 2 ^ m ≤ 262144 := Nat.le_trans (Nat.mul_le_mul (show st + y % st ≤ 8 by omega) (Nat.pow_le_pow_right (by decide) hmb)) (by decide)
    exact Nat.le_trans (Nat.add_le_add hP hx) (by decide)
def ulen (s : ByteArray) (p y : Nat) : Nat × Nat × Nat :=
  if 285 < y then (40, p, 0) else if y = 285 then (0, p, 258) else ((ustep s p (y - 257) 4).1, (ustep s p (y - 257) 4).2.1, 3 + (ustep s p (y - 257) 4).2.2)
def udist (ns : List Nat) (s : ByteArray) (p : Nat) : Nat × Nat × Nat :=
  if (usym ns s p).1 ≠ 0 then usym ns s p else if 29 < (usym ns s p).2.2 then (40, p, 0) else
    ((ustep s (usym ns s p).2.1 (usym ns s p).2.2 2).1, (ustep s (usym ns s p).2.1 (usym ns s p).2.2 2).2.1, 1 + (ustep s (usym ns s p).2.1 (usym ns s p).2.2 2).2.2)
end Go.Proofs.YtbcflkdaeboflaaDoor
namespace Go.Proofs.YtbcflkdaeboflaaDoor
open Go.RowKit
set_option linter.unusedVariables false
set_option maxRecDepth 20000

def copyL (d : Nat) : Nat → List Nat → List Nat
  | 0, l => l
  | n + 1, l => copyL d n (l ++ [l.getD (l.length - d) 0])
theorem copyL_succ (d : Nat) : ∀ (n : Nat) (l : List Nat), copyL d (n + 1) l = copyL d n l ++ [(copyL d n l).getD ((copyL d n l).length - d) 0]
  | 0, l => rfl
  | n + 1, l => by
    have := copyL_succ d n (l ++ [l.getD (l.length - d) 0])
    exact this
theorem copyL_length (d : Nat) : ∀ (n : Nat) (l : List Nat), (copyL d n l).length = l.length + n
  | 0, l => rfl
  | n + 1, l => by
    show (copyL d n (l ++ [l.getD (l.length - d) 0])).length = _
    rw [copyL_length d n, List.length_append, List.length_singleton]; omega
def repF (p : Nat) (l : List Nat) (most n d : Nat) : Nat × Nat × List Nat :=
  if l.length < d then (40, p, l) else if most < l.length + n then (4, p, l) else (0, p, copyL d n l)
theorem newB (W : World) (p : Value) (t : TypeId) : ∀ j u, [p][j]? = some u → (W.alloc (.cells #[p] t)).cell? ((⟨W.heap.size, 0, none⟩ : Addr).add j) = some u := news1 W p t
theorem oneB (x : Int) : ∀ u ∈ [Value.int .u8 x], u.oneCell' = true := by
  intro u hu; simp at hu; subst hu; rfl
end Go.Proofs.YtbcflkdaeboflaaDoor
namespace Go.Proofs.YtbcflkdaeboflaaDoor
open Go.RowKit
set_option linter.unusedVariables false
set_option maxRecDepth 20000

theorem symW_le (ns : List Nat) (l x : Nat) (h : ns.length ≤ 288) : symW ns l x < 288 := by
  unfold symW
  by_cases hi : x - fstW ns l < (symsOf ns l ns.length).length
  · have hm : (symsOf ns l ns.length).getD (x - fstW ns l) 0 ∈ symsOf ns l ns.length := by
      rw [List.getD_eq_getElem?_getD, List.getElem?_eq_getElem hi]; exact List.getElem_mem hi
    obtain ⟨z, hz⟩ : ∃ z, (symsOf ns l ns.length).getD (x - fstW ns l) 0 = z := ⟨_, rfl⟩
    rw [hz] at hm ⊢
    unfold symsOf at hm
    have := (List.mem_range.1 (List.mem_filter.1 hm).1)
    omega
  · rw [List.getD_eq_getElem?_getD, List.getElem?_eq_none (by omega)]; simp
theorem rdS_ok (ns : List Nat) (s : ByteArray) (p : Nat) (hn : ns.length ≤ 288) : ∀ (k l x : Nat), (rdS ns s p k l x).2.2 = 0 → (rdS ns s p k l x).1 < 288 ∧ l ≤ (rdS ns s p k l x).2.1 ∧ 1 ≤ (rdS ns s p k l x).2.1 ∧ (p + l ≤ 8 * s.size → p + (rdS ns s p k l x).2.1 ≤ 8 * s.size)
  | 0, l, x, h => by simp [rdS] at h
  | k + 1, l, x, h => by
    unfold rdS at h ⊢
    by_cases h1 : x < ew ns l
    · rw [if_pos h1] at h ⊢
      refine ⟨symW_le ns l x hn, Nat.le_refl _, ?_, fun h => h⟩
      cases l with
      | zero => simp [ew] at h1
      | succ l => simp
    · rw [if_neg h1] at h ⊢
      by_cases h2 : ew ns 15 ≤ x * 2 ^ (15 - l)
      · rw [if_pos h2] at h; simp at h
      · rw [if_neg h2] at h ⊢
        by_cases h3 : 8 * s.size ≤ p + l
        · rw [if_pos h3] at h; simp at h
        · rw [if_neg h3] at h ⊢
          obtain ⟨a1, a2, a3, a4⟩ := rdS_ok ns s p hn k (l + 1) (2 * x + bitAt s (p + l)) h
          exact ⟨a1, by omega, a3, fun _ => a4 (by omega)⟩
theorem usym_ok' {ns : List Nat} {s : ByteArray} {p : Nat} (hn : ns.length ≤ 288) (h : (usym ns s p).1 = 0) : (usym ns s p).2.2 < 288 ∧ p < (usym ns s p).2.1 ∧ (p ≤ 8 * s.size → (usym ns s p).2.1 ≤ 8 * s.size) := by
  unfold usym at h ⊢
  by_cases h1 : (rd ns s p).2.2 = 30
  · rw [if_pos h1] at h; simp at h
  · rw [if_neg h1] at h ⊢
    by_cases h2 : (rd ns s p).2.2 = 0
    · rw [if_pos h2] at h ⊢
      obtain ⟨a1, a2, a3, a4⟩ := rdS_ok ns s p hn 16 0 0 h2
      refine ⟨a1, ?_, ?_⟩
      · show p < p + (rd ns s p).2.1
        unfold rd; omega
      · intro hp; exact a4 (by omega)
    · rw [if_neg h2] at h; exact (h2 h).elim
theorem ub_le {s : ByteArray} {p n : Nat} (h : (ub s p n).1 = 0) : p ≤ (ub s p n).2.1 ∧ (p ≤ 8 * s.size → (ub s p n).2.1 ≤ 8 * s.size) := by
  unfold ub at h ⊢
  split at h
  · simp at h
  · rename_i h1; rw [if_neg h1]; exact ⟨by show p ≤ p + n; omega, fun _ => by show p + n ≤ _; omega⟩
theorem ustep_mono {s : ByteArray} {p y st : Nat} (h : (ustep s p y st).1 = 0) : p ≤ (ustep s p y st).2.1 ∧ (p ≤ 8 * s.size → (ustep s p y st).2.1 ≤ 8 * s.size) := by
  unfold ustep at h ⊢
  by_cases h1 : y < st
  · rw [if_pos h1]; exact ⟨Nat.le_refl _, fun h => h⟩
  · rw [if_neg h1] at h ⊢; exact ub_le h
theorem ulen_mono {s : ByteArray} {p y : Nat} (h : (ulen s p y).1 = 0) : p ≤ (ulen s p y).2.1 ∧ (p ≤ 8 * s.size → (ulen s p y).2.1 ≤ 8 * s.size) := by
  unfold ulen at h ⊢
  by_cases h1 : 285 < y
  · rw [if_pos h1] at h; simp at h
  · rw [if_neg h1] at h ⊢
    by_cases h2 : y = 285
    · rw [if_pos h2]; exact ⟨Nat.le_refl p, fun h => h⟩
    · rw [if_neg h2] at h ⊢
      have hm := ustep_mono (s := s) (p := p) (y := y - 257) (st := 4)
      obtain ⟨⟨a, c, x⟩, hu⟩ : ∃ r, ustep s p (y - 257) 4 = r := ⟨_, rfl⟩
      rw [hu] at h hm ⊢
      exact hm h
theorem udist_mono {ns : List Nat} {s : ByteArray} {p : Nat} (hn : ns.length ≤ 288) (h : (udist ns s p).1 = 0) : p ≤ (udist ns s p).2.1 ∧ (p ≤ 8 * s.size → (udist ns s p).2.1 ≤ 8 * s.size) := by
  unfold udist at h ⊢
  by_cases h1 : (usym ns s p).1 ≠ 0
  · rw [if_pos h1] at h; exact (h1 h).elim
  · rw [if_neg h1] at h ⊢
    have h1' : (usym ns s p).1 = 0 := by omega
    obtain ⟨a1, a2, a3⟩ := usym_ok' hn h1'
    by_cases h2 : 29 < (usym ns s p).2.2
    · rw [if_pos h2] at h; simp at h
    · rw [if_neg h2] at h ⊢
      obtain ⟨b1, b2⟩ := ustep_mono h
      exact ⟨Nat.le_trans (Nat.le_of_lt a2) b1, fun hp => b2 (a3 hp)⟩
theorem udist_pos {ns : List Nat} {s : ByteArray} {p : Nat} (h : (udist ns s p).1 = 0) : 1 ≤ (udist ns s p).2.2 ∧ (udist ns s p).2.2 ≤ 400003 := by
  unfold udist at h ⊢
  by_cases h1 : (usym ns s p).1 ≠ 0
  · rw [if_pos h1] at h; exact (h1 h).elim
  · rw [if_neg h1] at h ⊢
    by_cases h2 : 29 < (usym ns s p).2.2
    · rw [if_pos h2] at h; simp at h
    · rw [if_neg h2]
      have := ustep_le s (usym ns s p).2.1 (usym ns s p).2.2 2 (by omega) (by omega) (by omega)
      show 1 ≤ 1 + (ustep s (usym ns s p).2.1 (usym ns s p).2.2 2).2.2 ∧ 1 + (ustep s (usym ns s p).2.1 (usym ns s p).2.2 2).2.2 ≤ 400003
      omega
theorem ulen_le {s : ByteArray} {p y : Nat} (hy : 256 < y) : (ulen s p y).2.2 ≤ 400003 := by
  unfold ulen
  by_cases h1 : 285 < y
  · rw [if_pos h1]; exact Nat.zero_le _
  · rw [if_neg h1]
    by_cases h2 : y = 285
    · rw [if_pos h2]; show 258 ≤ 400003; omega
    · rw [if_neg h2]
      have := ustep_le s p (y - 257) 4 (by omega) (by omega) (by omega)
      show 3 + (ustep s p (y - 257) 4).2.2 ≤ 400003
      omega
theorem repF_len {p : Nat} {l : List Nat} {most n d : Nat} (h : (repF p l most n d).1 = 0) : (repF p l most n d).2.2.length ≤ most ∧ (repF p l most n d).2.1 = p := by
  unfold repF at h ⊢
  by_cases h1 : l.length < d
  · rw [if_pos h1] at h; simp at h
  · rw [if_neg h1] at h ⊢
    by_cases h2 : most < l.length + n
    · rw [if_pos h2] at h; simp at h
    · rw [if_neg h2]; exact ⟨by show (copyL d n l).length ≤ most; rw [copyL_length]; omega, rfl⟩
/-- What comes of a block's symbols: k rounds at most. -/
def packF (c d : List Nat) (s : ByteArray) (most : Nat) : Nat → Nat → List Nat → Nat × Nat × List Nat
  | 0, p, l => (99, p, l)
  | k + 1, p, l =>
    if (usym c s p).1 ≠ 0 then ((usym c s p).1, p, l)
    else if (usym c s p).2.2 < 256 then (if most < l.length + 1 then (4, p, l) else packF c d s most k (usym c s p).2.1 (l ++ [(usym c s p).2.2]))
    else if (usym c s p).2.2 = 256 then (0, (usym c s p).2.1, l)
    else if (ulen s (usym c s p).2.1 (usym c s p).2.2).1 ≠ 0 then ((ulen s (usym c s p).2.1 (usym c s p).2.2).1, p, l)
    else if (udist d s (ulen s (usym c s p).2.1 (usym c s p).2.2).2.1).1 ≠ 0 then ((udist d s (ulen s (usym c s p).2.1 (usym c s p).2.2).2.1).1, p, l)
    else if (repF 0 l most (ulen s (usym c s p).2.1 (usym c s p).2.2).2.2 (udist d s (ulen s (usym c s p).2.1 (usym c s p).2.2).2.1).2.2).1 ≠ 0 then
      ((repF 0 l most (ulen s (usym c s p).2.1 (usym c s p).2.2).2.2 (udist d s (ulen s (usym c s p).2.1 (usym c s p).2.2).2.1).2.2).1, p, l)
    else packF c d s most k (udist d s (ulen s (usym c s p).2.1 (usym c s p).2.2).2.1).2.1 (repF 0 l most (ulen s (usym c s p).2.1 (usym c s p).2.2).2.2 (udist d s (ulen s (usym c s p).2.1 (usym c s p).2.2).2.1).2.2).2.2
/-- More rounds than there are bits change nothing. -/
theorem packF_fuel (c d : List Nat) (s : ByteArray) (most : Nat) (hc : c.length ≤ 288) (hd : d.length ≤ 288) : ∀ (k k' p : Nat) (l : List Nat), p ≤ 8 * s.size → 8 * s.size + 1 - p ≤ k → 8 * s.size + 1 - p ≤ k' → packF c d s most k p l = packF c d s most k' p l
  | 0, k', p, l, h, h1, h2 => by omega
  | k + 1, 0, p, l, h, h1, h2 => by omega
  | k + 1, k' + 1, p, l, h, h1, h2 => by
    unfold packF
    by_cases a1 : (usym c s p).1 ≠ 0
    · rw [if_pos a1, if_pos a1]
    · rw [if_neg a1, if_neg a1]
      obtain ⟨b1, b2, b3⟩ := usym_ok' hc (by omega : (usym c s p).1 = 0)
      have b3 := b3 h
      obtain ⟨⟨e1, p1, y⟩, hu⟩ : ∃ r, usym c s p = r := ⟨_, rfl⟩
      rw [hu] at b1 b2 b3 ⊢
      by_cases a2 : y < 256
      · rw [if_pos a2, if_pos a2]
        by_cases a3 : most < l.length + 1
        · rw [if_pos a3, if_pos a3]
        · rw [if_neg a3, if_neg a3]
          have b2 : p < p1 := b2
          exact packF_fuel c d s most hc hd k k' _ _ b3 (by show 8 * s.size + 1 - p1 ≤ k; omega) (by show 8 * s.size + 1 - p1 ≤ k'; omega)
      · rw [if_neg a2, if_neg a2]
        by_cases a4 : y = 256
        · rw [if_pos a4, if_pos a4]
        · rw [if_neg a4, if_neg a4]
          have b2 : p < p1 := b2
          have b3 : p1 ≤ 8 * s.size := b3
          show (if (ulen s p1 y).1 ≠ 0 then _ else _) = (if (ulen s p1 y).1 ≠ 0 then _ else _)
          by_cases a5 : (ulen s p1 y).1 ≠ 0
          · rw [if_pos a5, if_pos a5]
          · rw [if_neg a5, if_neg a5]
            obtain ⟨c1, c2⟩ := ulen_mono (s := s) (p := p1) (y := y) (by omega)
            have c2 := c2 b3
            by_cases a6 : (udist d s (ulen s p1 y).2.1).1 ≠ 0
            · rw [if_pos a6, if_pos a6]
            · rw [if_neg a6, if_neg a6]
              obtain ⟨d1, d2⟩ := udist_mono (s := s) (p := (ulen s p1 y).2.1) hd (by omega)
              have d2 := d2 c2
              split
              · rfl
              · exact packF_fuel c d s most hc hd k k' _ _ d2 (by show 8 * s.size + 1 - (udist d s (ulen s p1 y).2.1).2.1 ≤ k; omega) (by show 8 * s.size + 1 - (udist d s (ulen s p1 y).2.1).2.1 ≤ k'; omega)
def placeOf (w : World) (b : Nat) : Nat := match w.cell? ⟨b, 2, none⟩ with | some v => (intOf v).toNat | none => 0
end Go.Proofs.YtbcflkdaeboflaaDoor
namespace Go.Proofs.YtbcflkdaeboflaaDoor
open Go.RowKit
set_option linter.unusedVariables false
set_option maxRecDepth 20000

theorem repF_at (p : Nat) (l : List Nat) (most n d : Nat) : repF p l most n d = ((repF 0 l most n d).1, p, (repF 0 l most n d).2.2) := by
  unfold repF
  by_cases h1 : l.length < d
  · rw [if_pos h1, if_pos h1]
  · rw [if_neg h1, if_neg h1]
    by_cases h2 : most < l.length + n
    · rw [if_pos h2, if_pos h2]
    · rw [if_neg h2, if_neg h2]
section
variable {c d : List Nat} {s : ByteArray} {most p : Nat} {l : List Nat} {er p1 y e2 p2 n e3 p3 x e4 p4 : Nat} {m : List Nat}
theorem pack_open (hp : p ≤ 8 * s.size) : ∃ k, 8 * s.size + 1 - p = k + 1 := ⟨8 * s.size - p, by omega⟩
theorem pack_bad (hp : p ≤ 8 * s.size) (hu : usym c s p = (er, p1, y)) (h : er ≠ 0) : packF c d s most (8 * s.size + 1 - p) p l = (er, p, l) := by
  obtain ⟨k, hk⟩ := pack_open hp
  rw [hk]; unfold packF; rw [hu, if_pos h]
theorem pack_full (hp : p ≤ 8 * s.size) (hu : usym c s p = (0, p1, y)) (hy : y < 256) (h : most < l.length + 1) : packF c d s most (8 * s.size + 1 - p) p l = (4, p, l) := by
  obtain ⟨k, hk⟩ := pack_open hp
  rw [hk]; unfold packF; rw [hu, if_neg (by simp), if_pos hy, if_pos h]
theorem pack_byte (hp : p ≤ 8 * s.size) (hc : c.length ≤ 288) (hd : d.length ≤ 288) (hu : usym c s p = (0, p1, y)) (hy : y < 256) (h : ¬ most < l.length + 1) : packF c d s most (8 * s.size + 1 - p) p l = packF c d s most (8 * s.size + 1 - p1) p1 (l ++ [y]) := by
  have hb := usym_ok' (s := s) (p := p) hc (by rw [hu])
  rw [hu] at hb
  obtain ⟨_, b2, b3⟩ := hb
  have b2 : p < p1 := b2
  have b3 : p1 ≤ 8 * s.size := b3 hp
  obtain ⟨k, hk⟩ := pack_open hp
  rw [hk]; conv => lhs; unfold packF
  rw [hu, if_neg (by simp), if_pos hy, if_neg h]
  exact packF_fuel c d s most hc hd k _ p1 _ b3 (by omega) (by omega)
theorem pack_end (hp : p ≤ 8 * s.size) (hu : usym c s p = (0, p1, 256)) : packF c d s most (8 * s.size + 1 - p) p l = (0, p1, l) := by
  obtain ⟨k, hk⟩ := pack_open hp
  rw [hk]; unfold packF; rw [hu, if_neg (by simp), if_neg (by simp), if_pos rfl]
theorem pack_len (hp : p ≤ 8 * s.size) (hu : usym c s p = (0, p1, y)) (hy : 256 < y) (hn : ulen s p1 y = (e2, p2, n)) (h : e2 ≠ 0) : packF c d s most (8 * s.size + 1 - p) p l = (e2, p, l) := by
  obtain ⟨k, hk⟩ := pack_open hp
  rw [hk]; unfold packF; rw [hu, if_neg (by simp), if_neg (by show ¬ y < 256; omega), if_neg (by show ¬ y = 256; omega), hn, if_pos h]
theorem pack_dist (hp : p ≤ 8 * s.size) (hu : usym c s p = (0, p1, y)) (hy : 256 < y) (hn : ulen s p1 y = (0, p2, n)) (ht : udist d s p2 = (e3, p3, x)) (h : e3 ≠ 0) : packF c d s most (8 * s.size + 1 - p) p l = (e3, p, l) := by
  obtain ⟨k, hk⟩ := pack_open hp
  rw [hk]; unfold packF; rw [hu, if_neg (by simp), if_neg (by show ¬ y < 256; omega), if_neg (by show ¬ y = 256; omega), hn, if_neg (by simp), ht, if_pos h]
theorem pack_rep (hp : p ≤ 8 * s.size) (hu : usym c s p = (0, p1, y)) (hy : 256 < y) (hn : ulen s p1 y = (0, p2, n)) (ht : udist d s p2 = (0, p3, x)) (hr : repF p3 l most n x = (e4, p4, m)) (h : e4 ≠ 0) : packF c d s most (8 * s.size + 1 - p) p l = (e4, p, l) := by
  obtain ⟨k, hk⟩ := pack_open hp
  rw [repF_at] at hr
  have hr1 : (repF 0 l most n x).1 = e4 := congrArg Prod.fst hr
  rw [hk]; unfold packF; rw [hu, if_neg (by simp), if_neg (by show ¬ y < 256; omega), if_neg (by show ¬ y = 256; omega), hn, if_neg (by simp), ht, if_neg (by simp)]
  show (if (repF 0 l most n x).1 ≠ 0 then _ else _) = _
  rw [if_pos (by rw [hr1]; exact h), ← hr1]
theorem pack_copy (hp : p ≤ 8 * s.size) (hc : c.length ≤ 288) (hd : d.length ≤ 288) (hu : usym c s p = (0, p1, y)) (hy : 256 < y) (hn : ulen s p1 y = (0, p2, n)) (ht : udist d s p2 = (0, p3, x)) (hr : repF p3 l most n x = (0, p4, m)) : packF c d s most (8 * s.size + 1 - p) p l = packF c d s most (8 * s.size + 1 - p3) p3 m := by
  have hb := usym_ok' (s := s) (p := p) hc (by rw [hu])
  rw [hu] at hb
  obtain ⟨_, b2, b3⟩ := hb
  have b2 : p < p1 := b2
  have b3 : p1 ≤ 8 * s.size := b3 hp
  have hb := ulen_mono (s := s) (p := p1) (y := y) (by rw [hn])
  rw [hn] at hb
  obtain ⟨b4, b5⟩ := hb
  have b4 : p1 ≤ p2 := b4
  have b5 : p2 ≤ 8 * s.size := b5 b3
  have hb := udist_mono (s := s) (p := p2) hd (by rw [ht])
  rw [ht] at hb
  obtain ⟨b6, b7⟩ := hb
  have b6 : p2 ≤ p3 := b6
  have b7 : p3 ≤ 8 * s.size := b7 b5
  obtain ⟨k, hk⟩ := pack_open hp
  rw [repF_at] at hr
  have hr1 : (repF 0 l most n x).1 = 0 := congrArg Prod.fst hr
  have hr2 : (repF 0 l most n x).2.2 = m := congrArg (fun r => r.2.2) hr
  rw [hk]; conv => lhs; unfold packF
  rw [hu, if_neg (by simp), if_neg (by show ¬ y < 256; omega), if_neg (by show ¬ y = 256; omega), hn, if_neg (by simp), ht, if_neg (by simp)]
  show (if (repF 0 l most n x).1 ≠ 0 then _ else packF c d s most k p3 (repF 0 l most n x).2.2) = _
  rw [if_neg (by rw [hr1]; simp), hr2]
  exact packF_fuel c d s most hc hd k _ p3 _ b7 (by omega) (by omega)
end
/-- K, and the blocks from lo up to hi. -/
def KX (K : Nat → Prop) (lo hi : Nat) : Nat → Prop := fun k => K k ∨ (lo ≤ k ∧ k < hi)
theorem UF.below {w w' : World} {K : Nat → Prop} (hb : Below w.heap.size w w') (hk : ∀ k, K k → k < w.heap.size) : UF K w w' := ⟨hb.os, hb.tape, hb.output, hb.size, fun k a => hb.block k (hk k a)⟩
theorem KX.in {K : Nat → Prop} {lo hi : Nat} : ∀ k, K k → KX K lo hi k := fun k h => .inl h
end Go.Proofs.YtbcflkdaeboflaaDoor
namespace Go.Proofs.YtbcflkdaeboflaaDoor
open Go.RowKit
set_option linter.unusedVariables false
set_option maxRecDepth 20000

def fixL (i : Nat) : Nat := if i < 144 then 8 else if i < 256 then 9 else if i < 280 then 7 else 8
/-- As far as k. -/
def upTo (f : Nat → Nat) (k i : Nat) : Nat := if i < k then f i else 0
theorem LB.next {w : World} {L n k x : Nat} {f : Nat → Nat} (h : LB w L n (upTo f k)) (hx : f k = x) : LB (w.setCell ⟨L, k, none⟩ (.int .i64 (x : Nat))) L n (upTo f (k + 1)) :=
  (h.set k x).congr (fun i _ => by
    unfold upTo
    by_cases e : i = k
    · subst e; rw [if_pos rfl, if_pos (by omega), hx]
    · rw [if_neg e]
      by_cases c : i < k
      · rw [if_pos c, if_pos (by omega)]
      · rw [if_neg c, if_neg (by omega)])
theorem LB.zero {w : World} {L n : Nat} {f : Nat → Nat} (h : LB w L n (fun _ => 0)) : LB w L n (upTo f 0) := h.congr (fun i _ => by unfold upTo; rw [if_neg (by omega)])
theorem LB.all {w : World} {L n : Nat} {f : Nat → Nat} (h : LB w L n (upTo f n)) : LB w L n f := h.congr (fun i hi => by unfold upTo; rw [if_pos hi])
/-- A row of numbers as lengths. -/
theorem LB.row {w : World} {L n : Nat} {f : Nat → Nat} (h : LB w L n f) : IRow w (some ⟨L, 0, none⟩) ((List.range n).map fun i => (f i : Int)) := by
  refine .inr ⟨L, 0, rfl, lt_heap h, fun i hi => ?_⟩
  have hi' : i < n := by simpa using hi
  rw [Nat.zero_add, (h.cell hi').1]
  simp [hi']
theorem nsOf_range (f : Nat → Nat) (n : Nat) : nsOf ((List.range n).map fun i => (f i : Int)) = (List.range n).map f := by
  unfold nsOf
  rw [List.map_map]
  exact List.map_congr_left (fun i _ => by simp)
def fixS : List Nat := (List.range 288).map fixL
def fixD : List Nat := (List.range 32).map fun _ => 5
set_option maxRecDepth 20000 in
theorem fixS_code : isCode0 ((List.range 288).map fun i => (fixL i : Int)) := by
  unfold isCode0
  rw [nsOf_range]
  decide +kernel
set_option maxRecDepth 20000 in
theorem fixD_code : isCode0 ((List.range 32).map fun i => (((fun _ => 5 : Nat → Nat) i : Nat) : Int)) := by
  unfold isCode0
  rw [nsOf_range]
  decide +kernel
end Go.Proofs.YtbcflkdaeboflaaDoor
namespace Go.Proofs.YtbcflkdaeboflaaDoor
open Go.RowKit
set_option linter.unusedVariables false
set_option maxRecDepth 20000

/-- An unpacker's fixed codes: not made yet, or two tables. -/
def Fix (w : World) (K : Nat → Prop) (f1 f2 : Value) : Prop := (f1 = .pointer none ∧ f2 = .pointer none) ∨ ∃ t1 t2, f1 = .pointer (some ⟨t1, 0, none⟩) ∧ f2 = .pointer (some ⟨t2, 0, none⟩) ∧ TabK w K t1 fixS ∧ TabK w K t2 fixD
end Go.Proofs.YtbcflkdaeboflaaDoor
namespace Go.Proofs.YtbcflkdaeboflaaDoor
open Go.RowKit
set_option linter.unusedVariables false
set_option maxRecDepth 20000

theorem Fix.keep {w w' : World} {K K' : Nat → Prop} {f1 f2 : Value} (h : Fix w K f1 f2) (hf : UF K w w') (hk : ∀ k, K k → K' k) : Fix w' K' f1 f2 := by
  rcases h with h | ⟨t1, t2, h1, h2, h3, h4⟩
  · exact .inl h
  · exact .inr ⟨t1, t2, h1, h2, (h3.keep hf).more hk, (h4.keep hf).more hk⟩
def blockF (told : Nat → Nat × Nat × List Nat × List Nat) (s : ByteArray) (most p : Nat) (l : List Nat) : Nat × Nat × List Nat :=
  if 8 * s.size < p + 1 then (5, p, l) else if 8 * s.size < p + 3 then (5, p, l)
  else if num s (p + 1) 2 = 0 then storedF s (p + 3) l most
  else if num s (p + 1) 2 = 1 then packF fixS fixD s most (8 * s.size + 1 - (p + 3)) (p + 3) l
  else if num s (p + 1) 2 = 2 then (if (told (p + 3)).1 ≠ 0 then ((told (p + 3)).1, p, l) else packF (told (p + 3)).2.2.1 (told (p + 3)).2.2.2 s most (8 * s.size + 1 - (told (p + 3)).2.1) (told (p + 3)).2.1 l)
  else (40, p, l)
end Go.Proofs.YtbcflkdaeboflaaDoor
