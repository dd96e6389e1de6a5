/- Layer 5: the copies that a finder finds, and the tokens of a text: the mathematics. -/
/- Layer 5: the map by three bytes; a finder's state. -/
/- Layer 5: the three bytes at a place; the last place that was met. -/
import Derived.ProofKit
import Derived.Test.YtbcflkdaeboflaaDoorChecked
import Derived.Tactics2
import Derived.WalkKit
import Derived.WalkLawsBesides
import Derived.WalkSpells
import Derived.Outline
import Derived.BigQuiet
import Derived.Deep.QuietTactic
import Derived.Deep.AppendLies
import Derived.Deep.RegionHeldLaw
import Derived.Deep.RegionLaw
import Derived.Deep.RegionWith
import Derived.Laws.NewBlocks
import Derived.LoopN
import Derived.Deep.OwnRows
import Derived.RowKit3
import Derived.Laws.AppendOwn
import Derived.Laws.OwnMore
import Derived.Laws.IdiomStrings
import Derived.Lib.AppendStr
import Derived.OwnWalk
import Derived.BigRegion
import Derived.Maps.OwnSet
import Derived.Maps.OwnOps
import Derived.DeepKeys4
namespace Go.Proofs.YtbcflkdaeboflaaDoor.D5
set_option linter.unusedVariables false
set_option maxRecDepth 20000

/-- The byte at a place. -/
def bt (s : ByteArray) (p : Nat) : Nat := (s.data.toList.getD p 0).toNat
theorem bt_lt (s : ByteArray) (p : Nat) : bt s p < 256 := UInt8.toNat_lt _
/-- The three bytes at a place. -/
def three (s : ByteArray) (p : Nat) : Nat × Nat × Nat := (bt s p, bt s (p + 1), bt s (p + 2))
/-- The last of the first k places where three bytes stand. -/
def lastP (s : ByteArray) : Nat → Nat × Nat × Nat → Option Nat
  | 0, _ => none
  | k + 1, x => if three s k = x then some k else lastP s k x
theorem lastP_some {s : ByteArray} {x : Nat × Nat × Nat} : ∀ {k p : Nat}, lastP s k x = some p → p < k ∧ three s p = x
  | 0, p, h => by simp [lastP] at h
  | k + 1, p, h => by
    unfold lastP at h
    split at h
    · cases h; exact ⟨Nat.lt_succ_self _, by assumption⟩
    · have := lastP_some h; exact ⟨by omega, this.2⟩
def enc32 : Option Nat → Int
  | none => -1
  | some p => (p : Nat)
theorem enc_b (o : Option Nat) {k : Nat} (h : ∀ p, o = some p → p < k) : -1 ≤ enc32 o ∧ enc32 o < (k : Int) ∨ enc32 o = -1 := by
  cases o with
  | none => right; rfl
  | some p => left; have := h p rfl; simp [enc32]; omega
/-- From n on, how far two places go on alike, at most m more. -/
def runL (s : ByteArray) (a b : Nat) : Nat → Nat → Nat
  | 0, n => n
  | m + 1, n => if bt s (a + n) = bt s (b + n) then runL s a b m (n + 1) else n
def alikeF (s : ByteArray) (a b fl most : Nat) : Nat := if bt s (a + fl) = bt s (b + fl) then runL s a b most 0 else 0
theorem runL_le (s : ByteArray) (a b : Nat) : ∀ m n, n ≤ runL s a b m n ∧ runL s a b m n ≤ n + m ∧ ∀ i, n ≤ i → i < runL s a b m n → bt s (a + i) = bt s (b + i)
  | 0, n => ⟨Nat.le_refl _, Nat.le_refl _, fun i h1 h2 => by simp [runL] at h2; omega⟩
  | m + 1, n => by
    unfold runL
    split
    · rename_i h
      have h1 := runL_le s a b m (n + 1)
      refine ⟨by omega, by omega, fun i hi h2 => ?_⟩
      by_cases e : i = n
      · subst e; exact h
      · exact h1.2.2 i (by omega) h2
    · exact ⟨Nat.le_refl _, by omega, fun i h1 h2 => by omega⟩
theorem alikeF_le (s : ByteArray) (a b fl most : Nat) : alikeF s a b fl most ≤ most := by
  unfold alikeF
  split
  · have := (runL_le s a b most 0).2.1; omega
  · omega
theorem alikeF_same {s : ByteArray} {a b fl most i : Nat} (h : i < alikeF s a b fl most) : bt s (a + i) = bt s (b + i) := by
  unfold alikeF at h
  split at h
  · exact (runL_le s a b most 0).2.2 i (Nat.zero_le _) h
  · omega
/-- Where three bytes are alike, they go on alike for three. -/
theorem runL_three {s : ByteArray} {a b most : Nat} (h : three s a = three s b) (hm : 3 ≤ most) : 3 ≤ runL s a b most 0 := by
  unfold three at h
  simp only [Prod.mk.injEq] at h
  obtain ⟨h0, h1, h2⟩ := h
  obtain ⟨m, rfl⟩ : ∃ m, most = m + 3 := ⟨most - 3, by omega⟩
  show 3 ≤ runL s a b (m + 2 + 1) 0
  rw [runL, if_pos (by simpa using h0), runL, if_pos (by simpa using h1), runL, if_pos (by simpa using h2)]
  exact (runL_le s a b m 3).1
theorem alikeF_three {s : ByteArray} {a b most : Nat} (h : three s a = three s b) (hm : 3 ≤ most) : 3 ≤ alikeF s a b 0 most := by
  unfold alikeF
  have h0 : bt s a = bt s b := by unfold three at h; simp only [Prod.mk.injEq] at h; exact h.1
  rw [if_pos (by simpa using h0)]
  exact runL_three h hm
/-- Places are tried, so many, from one on: the longest copy and how far back. -/
def chain (s : ByteArray) (k most : Nat) : Nat → Option Nat → Nat → Nat → Nat × Nat
  | 0, _, len, dist => (len, dist)
  | _ + 1, none, len, dist => (len, dist)
  | t + 1, some p, len, dist =>
    if 32768 < k - p then (len, dist) else
    if len < alikeF s p k len most then
      if alikeF s p k len most = most then (alikeF s p k len most, k - p) else chain s k most t (lastP s p (three s p)) (alikeF s p k len most) (k - p)
    else chain s k most t (lastP s p (three s p)) len dist
theorem chain_none (s : ByteArray) (k most len dist : Nat) : ∀ t, chain s k most t none len dist = (len, dist)
  | 0 => rfl
  | _ + 1 => rfl
theorem chain_far (s : ByteArray) (k most p len dist : Nat) (h : 32768 < k - p) : ∀ t, chain s k most t (some p) len dist = (len, dist)
  | 0 => rfl
  | t + 1 => by unfold chain; rw [if_pos h]
/-- How many places a finder has met that stood at the first k. -/
def met (s : ByteArray) (k : Nat) : Nat := min k (s.size - 2)
theorem met_lt {s : ByteArray} {k : Nat} (h : k + 3 ≤ s.size) : met s k = k := by unfold met; omega
theorem met_succ {s : ByteArray} {k : Nat} (h : k + 3 ≤ s.size) : met s (k + 1) = k + 1 := by unfold met; omega
theorem met_end {s : ByteArray} {k : Nat} (h : s.size < k + 3) : met s (k + 1) = met s k := by unfold met; omega
theorem met_le (s : ByteArray) (k : Nat) : met s k ≤ k := by unfold met; omega
/-- The longest copy before it is judged. -/
def rawAt (s : ByteArray) (k : Nat) : Nat × Nat := chain s k (min 258 (s.size - k)) 64 (lastP s (met s k) (three s k)) 0 0
/-- The longest copy that tells what stands at a place. -/
def copyAt (s : ByteArray) (k : Nat) : Nat × Nat := if s.size < k + 3 then (0, 0) else if (rawAt s k).1 = 3 ∧ 4096 < (rawAt s k).2 then (0, 0) else rawAt s k
/-- A copy tells what stands at a place. -/
structure CopyOK (s : ByteArray) (k n d : Nat) : Prop where
  long : 3 ≤ n
  most : n ≤ 258
  room : k + n ≤ s.size
  back : 1 ≤ d
  far : d ≤ 32768
  lies : d ≤ k
  same : ∀ i, i < n → bt s (k - d + i) = bt s (k + i)
theorem chain_ok {s : ByteArray} {k most : Nat} (hm : 3 ≤ most) (hm2 : most ≤ 258) (hk : k + most ≤ s.size) : ∀ (t : Nat) (o : Option Nat) (len dist : Nat), (∀ p, o = some p → p < k ∧ three s p = three s k) → ((len = 0 ∧ dist = 0) ∨ CopyOK s k len dist) → (chain s k most t o len dist = (0, 0)) ∨ CopyOK s k (chain s k most t o len dist).1 (chain s k most t o len dist).2
  | 0, o, len, dist, ho, h => by
    show ((len, dist) = (0, 0)) ∨ CopyOK s k len dist
    rcases h with ⟨rfl, rfl⟩ | h
    · exact .inl rfl
    · exact .inr h
  | t + 1, none, len, dist, ho, h => by
    show ((len, dist) = (0, 0)) ∨ CopyOK s k len dist
    rcases h with ⟨rfl, rfl⟩ | h
    · exact .inl rfl
    · exact .inr h
  | t + 1, some p, len, dist, ho, h => by
    obtain ⟨hp, h3⟩ := ho p rfl
    have ho2 : ∀ q, lastP s p (three s p) = some q → q < k ∧ three s q = three s k := fun q hq => by
      have := lastP_some hq; exact ⟨by omega, this.2.trans h3⟩
    have hle := alikeF_le s p k len most
    have hnew : len < alikeF s p k len most → k - p ≤ 32768 → CopyOK s k (alikeF s p k len most) (k - p) := fun hlt hd => by
      have hlen : 3 ≤ alikeF s p k len most := by
        rcases h with ⟨rfl, _⟩ | h
        · exact alikeF_three h3 hm
        · have := h.long; omega
      refine ⟨hlen, by omega, by omega, by omega, hd, by omega, fun i hi => ?_⟩
      rw [show k - (k - p) = p by omega]
      exact alikeF_same hi
    unfold chain
    by_cases h1 : 32768 < k - p
    · rw [if_pos h1]
      rcases h with ⟨rfl, rfl⟩ | h
      · exact .inl rfl
      · exact .inr h
    · rw [if_neg h1]
      by_cases h2 : len < alikeF s p k len most
      · rw [if_pos h2]
        have hn := hnew h2 (by omega)
        by_cases h4 : alikeF s p k len most = most
        · rw [if_pos h4]; exact .inr hn
        · rw [if_neg h4]; exact chain_ok hm hm2 hk t _ _ _ ho2 (.inr hn)
      · rw [if_neg h2]; exact chain_ok hm hm2 hk t _ _ _ ho2 h
theorem rawAt_ok {s : ByteArray} {k : Nat} (h : k + 3 ≤ s.size) : rawAt s k = (0, 0) ∨ CopyOK s k (rawAt s k).1 (rawAt s k).2 :=
by
  unfold rawAt
  refine chain_ok (by omega) (by omega) (by omega) _ _ _ _ (fun p hp => ?_) (.inl ⟨rfl, rfl⟩)
  have h1 := lastP_some hp
  have h2 := met_le s k
  exact ⟨by omega, h1.2⟩
theorem copyAt_ok {s : ByteArray} {k : Nat} : (copyAt s k).1 = 0 ∨ (CopyOK s k (copyAt s k).1 (copyAt s k).2 ∧ ((copyAt s k).1 = 3 → (copyAt s k).2 ≤ 4096)) := by
  unfold copyAt
  by_cases h1 : s.size < k + 3
  · rw [if_pos h1]; exact .inl rfl
  · rw [if_neg h1]
    by_cases h2 : (rawAt s k).1 = 3 ∧ 4096 < (rawAt s k).2
    · rw [if_pos h2]; exact .inl rfl
    · rw [if_neg h2]
      rcases rawAt_ok (s := s) (k := k) (by omega) with h | h
      · rw [h]; exact .inl rfl
      · exact .inr ⟨h, fun h3 => by omega⟩
theorem copyAt_b (s : ByteArray) (k : Nat) : (copyAt s k).1 ≤ 258 ∧ (copyAt s k).2 ≤ 32768 ∧ ((copyAt s k).1 = 0 → copyAt s k = (0, 0)) := by
  unfold copyAt
  by_cases h1 : s.size < k + 3
  · rw [if_pos h1]; exact ⟨by simp, by simp, fun _ => rfl⟩
  · rw [if_neg h1]
    by_cases h2 : (rawAt s k).1 = 3 ∧ 4096 < (rawAt s k).2
    · rw [if_pos h2]; exact ⟨by simp, by simp, fun _ => rfl⟩
    · rw [if_neg h2]
      rcases rawAt_ok (s := s) (k := k) (by omega) with h | h
      · rw [h]; exact ⟨by simp, by simp, fun _ => rfl⟩
      · exact ⟨h.most, h.far, fun h0 => by have := h.long; omega⟩
/-- The next token is a plain byte. -/
def plainAt (s : ByteArray) (k : Nat) : Bool := decide ((copyAt s k).1 = 0) || (decide ((copyAt s k).1 < 64) && decide ((copyAt s k).1 < (copyAt s (k + 1)).1))
theorem plainAt_iff {s : ByteArray} {k : Nat} : plainAt s k = true ↔ ((copyAt s k).1 = 0 ∨ ((copyAt s k).1 < 64 ∧ (copyAt s k).1 < (copyAt s (k + 1)).1)) := by
  unfold plainAt; simp
/-- The tokens from a place on: a plain byte, its length and distance 0, or a copy. -/
def tokF (s : ByteArray) : Nat → Nat → List (Nat × Nat × Nat)
  | 0, _ => []
  | f + 1, k => if s.size ≤ k then [] else if plainAt s k then (bt s k, 0, 0) :: tokF s f (k + 1) else (0, (copyAt s k).1, (copyAt s k).2) :: tokF s f (k + (copyAt s k).1)
def tokensOf (s : ByteArray) : List (Nat × Nat × Nat) := tokF s (s.size + 1) 0
end Go.Proofs.YtbcflkdaeboflaaDoor.D5
namespace Go.Proofs.YtbcflkdaeboflaaDoor.D5
open Go.RowKit Go.Maps
set_option linter.unusedVariables false
set_option maxRecDepth 20000

theorem laidOut3 : laidOutB Tryd.prog = true := by kernel_rfl
theorem row3 : 78 < Tryd.prog.types.size := of_decide_eq_true (by kernel_rfl)
theorem wide3 : (match Tryd.prog.underlying 78 with | some (.array _ _) | some (.struct _) => true | _ => false) = true := by kernel_rfl
set_option maxRecDepth 20000 in
theorem law3 : Keyed Tryd.prog 78 := Keyed.of_law (deep_law_laid laidOut3 (m := 2) (by omega) row3 (by kernel_rfl) wide3)
theorem zero32 (w : World) : (zeroValue 21).run Tryd.prog w = .ok (.int .i32 0) w := by kernel_rfl
def v3 (a b c : Nat) : Value := .agg #[.int .u8 (a : Nat), .int .u8 (b : Nat), .int .u8 (c : Nat)]
theorem cellsT3 : Tryd.prog.cellsOf 78 = 3 := by kernel_rfl
theorem cellsU8 : Tryd.prog.cellsOf 5 = 1 := by kernel_rfl
theorem sizeT3 : ∃ n, Tryd.prog.types.size + 1 = n + 2 := ⟨Tryd.prog.types.size - 1, by have := row3; omega⟩
theorem key3 (a b c : Nat) (ha : a < 256) (hb : b < 256) (hc : c < 256) : ∃ kl, keyOf Tryd.prog 78 (v3 a b c) = some kl := by
  have hk : Tryd.prog.keyType 78 = true := by kernel_rfl
  have hw : ∀ x : Nat, x < 256 → (Lit.int .u8 (x : Int)).wf = true := fun x hx => by
    have h1 : IntKind.u8.min = 0 := rfl
    have h2 : IntKind.u8.max = 255 := rfl
    simp [Lit.wf, h1, h2]; omega
  obtain ⟨n, hn⟩ := sizeT3
  unfold keyOf v3
  rw [Tryd.underlying78]
  simp only [hk, Bool.true_and]
  rw [hn]
  have hf : (Value.agg #[.int .u8 (a : Nat), .int .u8 (b : Nat), .int .u8 (c : Nat)]).formed Tryd.prog 78 = true := by simp [Value.formed, Tryd.underlying78, cellsT3]
  rw [if_pos hf]
  simp [Program.keyLits, Tryd.underlying78, Tryd.underlying5, cellsT3, cellsU8, Value.cells, List.range_succ, hw a ha, hw b hb, hw c hc]
theorem bt_at (s : ByteArray) (a : Nat) (h : a < s.size) : (s[a]'h).toNat = bt s a := by
  have h' : a < s.data.size := h
  unfold bt
  rw [List.getD_eq_getElem?_getD, Array.getElem?_toList, Array.getElem?_eq_getElem h']
  rfl
theorem wrapN (T : Nat) (h : T ≤ 4611686018427387904) : IntKind.i64.wrap (T : Int) = (T : Int) := by rw [IntKind.wrap_i64]; omega
theorem wrapN64 (T : Nat) (h : T ≤ 4611686018427387904) : wrap64 (T : Int) = (T : Int) := by unfold wrap64; omega
theorem add_zero_addr (g j : Nat) : (⟨g, 0, none⟩ : Addr).add j = ⟨g, j, none⟩ := by
  unfold Addr.add; split
  · subst_vars; rfl
  · simp
theorem block_setCell {w : World} {b i : Nat} {cs : Array Value} {t : TypeId} {u : Value} (h : w.heap[b]? = some (.cells cs t (0, 0))) : (w.setCell ⟨b, i, none⟩ u).heap[b]? = some (.cells (cs.setIfInBounds i u) t (0, 0)) := by
  have hlt := lt_of_block h
  have h' : w.heap[b] = .cells cs t (0, 0) := by simpa [Array.getElem?_eq_getElem hlt] using h
  show (w.heap.modify b _)[b]? = _
  rw [Array.getElem?_eq_getElem (by simpa using hlt), Array.getElem_modify_self, h']
  rfl
theorem Below.drewN' (B : Nat) (w : World) (k : Nat) : Below B w (w.drewN k) := ⟨rfl, rfl, rfl, Nat.le_refl _, fun _ _ => rfl⟩
theorem kept_row {w w' : World} {B b size n : Nat} {E T : TypeId} {v : Value} {xs : List Value} {cs : Array Value} {mk : Nat × Nat} (hbl : w.heap[b]? = some (.cells cs T mk)) (hT : T ≠ E) (hown : w.ownsRow B E size v n xs) (hg : w.grownBy w' v.ownBlock) : w'.heap[b]? = w.heap[b]? :=
  hg.block b (lt_of_block hbl) (fun e => by
    rcases hown.2 with ⟨rfl, _⟩ | ⟨g, cap, cur, rfl, hB, hh, _⟩
    · simp [Value.ownBlock] at e
    · have e' : b = g := by simpa [Value.ownBlock] using e
      subst e'; rw [hbl] at hh; cases hh; exact hT rfl)
theorem Below.grown {B size n : Nat} {E : TypeId} {w w' : World} {v : Value} {xs : List Value} (hown : w.ownsRow B E size v n xs) (hg : w.grownBy w' v.ownBlock) (hB : B ≤ w.heap.size) : Below B w w' :=
  ⟨hg.os, hg.tape, hg.output, hg.size, fun k hk => hg.block k (by omega) (fun e => by have := (hown.lt k e.symm).1; omega)⟩
theorem Below.setCell' {B b i : Nat} (w : World) (u : Value) (hB : B ≤ b) : Below B w (w.setCell ⟨b, i, none⟩ u) :=
  ⟨rfl, rfl, rfl, by simp [World.setCell], fun k hk => Below.heap_setCell _ _ _ _ (by show k ≠ b; omega)⟩

/-- What a map knows of the first k places. -/
def MapOK (D : DataW Unit) (s : ByteArray) (k : Nat) : Prop :=
  ∀ a b c kl, keyOf Tryd.prog 78 (v3 a b c) = some kl → Maps.has D kl = (lastP s k (a, b, c)).isSome ∧ ∀ p, lastP s k (a, b, c) = some p → D.atKey kl (.lit (.int .i32 0)) = .lit (.int .i32 (p : Nat))
theorem mapOK_nil (s : ByteArray) : MapOK (.map []) s 0 := by
  intro a b c kl _
  exact ⟨rfl, fun p h => by simp [lastP] at h⟩
theorem v3_inj {a b c a' b' c' : Nat} (h : v3 a b c = v3 a' b' c') : (a, b, c) = (a', b', c') := by
  simp [v3] at h
  simp only [Prod.mk.injEq]
  omega
theorem MapOK.put {D : DataW Unit} {s : ByteArray} {k : Nat} {kl : Lit} (h : MapOK D s k) (hD : Maps.IsMap D) (hk : keyOf Tryd.prog 78 (v3 (bt s k) (bt s (k + 1)) (bt s (k + 2))) = some kl) : MapOK (D.put kl (.lit (.int .i32 (k : Nat)))) s (k + 1) := by
  intro a b c kl' hk'
  by_cases e : (a, b, c) = three s k
  · have e' : v3 a b c = v3 (bt s k) (bt s (k + 1)) (bt s (k + 2)) := by
      unfold three at e
      simp only [Prod.mk.injEq] at e
      obtain ⟨rfl, rfl, rfl⟩ := e
      rfl
    rw [e', hk] at hk'
    cases hk'
    have el : lastP s (k + 1) (a, b, c) = some k := by unfold lastP; rw [if_pos e.symm]
    rw [el]
    refine ⟨Maps.has_put_same hD (law3.key hk) _, fun p hp => ?_⟩
    cases hp
    exact Maps.atKey_put_same hD (law3.key hk) _ _
  · have hne : kl' ≠ kl := fun h => by
      subst h
      have := law3.inj hk' hk
      exact e (v3_inj this)
    have el : lastP s (k + 1) (a, b, c) = lastP s k (a, b, c) := by
      rw [lastP, if_neg (fun h => e h.symm)]
    rw [el, Maps.has_put_other hne]
    refine ⟨(h a b c kl' hk').1, fun p hp => ?_⟩
    rw [Maps.atKey_put_other hne]
    exact (h a b c kl' hk').2 p hp
/-- Block f is a finder of the text s that has met the first k places. -/
structure FS (w : World) (f mb ob : Nat) (s : ByteArray) (k : Nat) : Prop where
  blk : w.heap[f]? = some (.cells #[.string s, .map (some mb), .slice (some ⟨ob, 0, none⟩) s.size s.size] 54 (0, 0))
  map : ∃ D : DataW Unit, w.ownsMap Tryd.prog 78 (plainElem Tryd.prog 21) mb k D ∧ MapOK D s k ∧ Maps.IsMap D
  old : ∃ cs : Array Value, w.heap[ob]? = some (.cells cs 21 (0, 0)) ∧ cs.size = s.size ∧ ∀ i, i < k → cs[i]? = some (.int .i32 (enc32 (lastP s i (three s i))))
  small : s.size ≤ 1048576
/-- w' is w but for the blocks mb and ob, for draws and new blocks. -/
structure TF (mb ob : Nat) (w w' : World) : Prop where
  os : w'.os = w.os
  tape : w'.tape = w.tape
  output : w'.output = w.output
  size : w.heap.size ≤ w'.heap.size
  block : ∀ k, k < w.heap.size → k ≠ mb → k ≠ ob → w'.heap[k]? = w.heap[k]?
theorem TF.refl (mb ob : Nat) (w : World) : TF mb ob w w := ⟨rfl, rfl, rfl, Nat.le_refl _, fun _ _ _ _ => rfl⟩
theorem TF.trans {mb ob : Nat} {u v w : World} (h : TF mb ob u v) (k : TF mb ob v w) : TF mb ob u w :=
  ⟨k.os.trans h.os, k.tape.trans h.tape, k.output.trans h.output, Nat.le_trans h.size k.size, fun i hl h1 h2 => (k.block i (Nat.lt_of_lt_of_le hl h.size) h1 h2).trans (h.block i hl h1 h2)⟩
theorem TF.drewN (mb ob : Nat) (w : World) (k : Nat) : TF mb ob w (w.drewN k) := ⟨rfl, rfl, rfl, Nat.le_refl _, fun _ _ _ _ => rfl⟩
theorem FS.drewN {w : World} {f mb ob : Nat} {s : ByteArray} {k : Nat} (h : FS w f mb ob s k) (n : Nat) : FS (w.drewN n) f mb ob s k := ⟨h.blk, h.map, h.old, h.small⟩
theorem FS.cells {w : World} {f mb ob : Nat} {s : ByteArray} {k : Nat} (h : FS w f mb ob s k) : w.cell? ⟨f, 0, none⟩ = some (.string s) ∧ w.cell? ⟨f, 1, none⟩ = some (.map (some mb)) ∧ w.cell? ⟨f, 2, none⟩ = some (.slice (some ⟨ob, 0, none⟩) s.size s.size) := by
  have h1 := h.blk
  exact ⟨by simp [World.cell?, h1], by simp [World.cell?, h1], by simp [World.cell?, h1]⟩
def threeV (s : ByteArray) (p : Nat) : Value := v3 (bt s p) (bt s (p + 1)) (bt s (p + 2))
end Go.Proofs.YtbcflkdaeboflaaDoor.D5
namespace Go.Proofs.YtbcflkdaeboflaaDoor.D5
open Go.RowKit Go.Maps
set_option linter.unusedVariables false
set_option maxRecDepth 20000
set_option maxRecDepth 20000

theorem results_cell_tmp {fn : Func} {p q : Tmp} {ty : TypeId} (h : fn.results = #[.cell p ty, .tmp q]) (tmps : Array Value) (P : Program) (w : World) :
    (results fn tmps).run P w = ((asAddr (tmps.getD p undef)).run P w).andThen fun a w₁ => ((loadVar ty a).run P w₁).andThen fun x w₂ => .ok (.tuple #[x, tmps.getD q undef]) w₂ := by
  simp only [results, h]
  simp [Sem.run_bind, Result.andThen]
set_option maxHeartbeats 1000000 in
theorem threeAt_no (w : World) (f : Nat) (s : ByteArray) (p : Nat) (hc : w.cell? ⟨f, 0, none⟩ = some (.string s)) (hp : s.size < p + 3) (hp2 : p ≤ 4194304) (hs : s.size ≤ 1048576) :
    Calls Tryd.prog 40 #[.pointer (some ⟨f, 0, none⟩), .int .i64 p] w fun e w' => e = .returned (.tuple #[v3 0 0 0, .bool false]) ∧ Below w.heap.size w w' := by
  obtain ⟨q, hq⟩ : ∃ q, p + 3 = q := ⟨_, rfl⟩
  have j1 : (p : Int) + 3 = (q : Int) := by omega
  have k1 := wrapN q (by omega)
  have i1 : (s.size : Int) < (q : Int) := by omega
  have hc2 : ∀ o, (w.alloc o).cell? ⟨f, 0, none⟩ = some (.string s) := fun o => by rw [World.cell?_alloc_some w ⟨f, 0, none⟩ o (by rw [hc]; rfl)]; exact hc
  clear hq hp
  go_enter Tryd.func40, Tryd.ntmps40
  go_wp2
  try simp only [Exit.inBlock, Exit.then]
  have hb : (w.alloc (.cells #[.int .u8 0, .int .u8 0, .int .u8 0] 78)).heap[w.heap.size]? = some (.cells #[.int .u8 0, .int .u8 0, .int .u8 0] 78 (0, 0)) := heap_alloc_new _ _
  obtain ⟨W, hW⟩ : ∃ W, w.alloc (.cells #[.int .u8 0, .int .u8 0, .int .u8 0] 78) = W := ⟨_, rfl⟩
  have HBL : Hid (Below w.heap.size w W) := by rw [← hW]; exact (Below.refl _ _).alloc (Nat.le_refl _) _
  rw [hW] at hb ⊢
  have x0 : W.cell? ⟨w.heap.size, 0, none⟩ = some (.int .u8 0) := by simp [World.cell?, hb]
  have x1 : W.cell? ⟨w.heap.size, 1, none⟩ = some (.int .u8 0) := by simp [World.cell?, hb]
  have x2 : W.cell? ⟨w.heap.size, 2, none⟩ = some (.int .u8 0) := by simp [World.cell?, hb]
  refine bodyPost_ret (v := .tuple #[v3 0 0 0, .bool false]) ?_ rfl ?_
  · rw [results_cell_tmp rfl]
    go_simp
    rfl
  exact ⟨rfl, HBL.out⟩
set_option maxHeartbeats 1000000 in
theorem threeAt_ok (w : World) (f : Nat) (s : ByteArray) (p : Nat) (hc : w.cell? ⟨f, 0, none⟩ = some (.string s)) (hp : p + 3 ≤ s.size) (hs : s.size ≤ 1048576) :
    Calls Tryd.prog 40 #[.pointer (some ⟨f, 0, none⟩), .int .i64 p] w fun e w' => e = .returned (.tuple #[threeV s p, .bool true]) ∧ Below w.heap.size w w' := by
  have g0 : p < s.size := by omega
  have b0 := bt_at s p g0
  obtain ⟨p1, e1⟩ : ∃ q, p + 1 = q := ⟨_, rfl⟩
  obtain ⟨p2, e2⟩ : ∃ q, p + 2 = q := ⟨_, rfl⟩
  obtain ⟨p3, e3⟩ : ∃ q, p + 3 = q := ⟨_, rfl⟩
  have i0 : (p : Int) < (s.size : Int) := by omega
  have i1 : (p1 : Int) < (s.size : Int) := by omega
  have i2 : (p2 : Int) < (s.size : Int) := by omega
  have i3 : ¬ (s.size : Int) < (p3 : Int) := by omega
  have j1 : (p : Int) + 1 = (p1 : Int) := by omega
  have j2 : (p : Int) + 2 = (p2 : Int) := by omega
  have j3 : (p : Int) + 3 = (p3 : Int) := by omega
  have k1 := wrapN p1 (by omega)
  have k2 := wrapN p2 (by omega)
  have k3 := wrapN p3 (by omega)
  have g1 : p1 < s.size := by omega
  have g2 : p2 < s.size := by omega
  have b1 := bt_at s p1 g1
  have b2 := bt_at s p2 g2
  have HV : Hid (threeV s p = .agg #[.int .u8 (bt s p : Nat), .int .u8 (bt s p1 : Nat), .int .u8 (bt s p2 : Nat)]) := by
    show _ = _
    rw [← e1, ← e2]; rfl
  obtain ⟨y0, f0⟩ : ∃ y, bt s p = y := ⟨_, rfl⟩
  obtain ⟨y1, f1⟩ : ∃ y, bt s p1 = y := ⟨_, rfl⟩
  obtain ⟨y2, f2⟩ : ∃ y, bt s p2 = y := ⟨_, rfl⟩
  rw [f0] at b0 HV
  rw [f1] at b1 HV
  rw [f2] at b2 HV
  have hc2 : ∀ o, (w.alloc o).cell? ⟨f, 0, none⟩ = some (.string s) := fun o => by rw [World.cell?_alloc_some w ⟨f, 0, none⟩ o (by rw [hc]; rfl)]; exact hc
  clear f0 f1 f2 e1 e2 e3 hp
  go_enter Tryd.func40, Tryd.ntmps40
  go_wp2_with fail
  obtain ⟨W, hW⟩ : ∃ W, w.alloc (.cells #[.int .u8 0, .int .u8 0, .int .u8 0] 78) = W := ⟨_, rfl⟩
  have hcW : W.cell? ⟨f, 0, none⟩ = some (.string s) := by rw [← hW]; exact hc2 _
  have hbW : W.heap[w.heap.size]? = some (.cells #[.int .u8 0, .int .u8 0, .int .u8 0] 78 (0, 0)) := by rw [← hW]; exact heap_alloc_new _ _
  have HBL : Hid (W.heap[w.heap.size]? = some (.cells #[.int .u8 0, .int .u8 0, .int .u8 0] 78 (0, 0)) ∧ Below w.heap.size w W) := ⟨hbW, by rw [← hW]; exact (Below.refl _ _).alloc (Nat.le_refl _) _⟩
  obtain ⟨U, hU⟩ : ∃ U, w.heap.size = U := ⟨_, rfl⟩
  rw [hU] at hbW
  have z0 : W.cell? ⟨U, 0, none⟩ = some (.int .u8 0) := by simp [World.cell?, hbW]
  have z1 : W.cell? ⟨U, 1, none⟩ = some (.int .u8 0) := by simp [World.cell?, hbW]
  have z2 : W.cell? ⟨U, 2, none⟩ = some (.int .u8 0) := by simp [World.cell?, hbW]
  have q0 : W.frozen? ⟨U, 0, none⟩ = false := by simp [World.frozen?, hbW]
  have q1 : W.frozen? ⟨U, 1, none⟩ = false := by simp [World.frozen?, hbW]
  have q2 : W.frozen? ⟨U, 2, none⟩ = false := by simp [World.frozen?, hbW]
  rw [hW, hU]
  clear hc2 hc hW hbW i3 j3 k3
  go_region
  obtain ⟨W4, hW4⟩ : ∃ W4, (((W.setCell ⟨U, 0, none⟩ (.int .u8 (y0 : Nat))).setCell ⟨U, 1, none⟩ (.int .u8 (y1 : Nat))).setCell ⟨U, 2, none⟩ (.int .u8 (y2 : Nat))).drew = W4 := ⟨_, rfl⟩
  have hb4 : W4.heap[U]? = some (.cells #[.int .u8 (y0 : Nat), .int .u8 (y1 : Nat), .int .u8 (y2 : Nat)] 78 (0, 0)) := by
    rw [← hW4]
    have h0 := HBL.out.1
    rw [hU] at h0
    exact block_setCell (i := 2) (block_setCell (i := 1) (block_setCell (i := 0) h0))
  have HB4 : Hid (Below U w W4) := by
    have h0 := HBL.out.2
    rw [hU] at h0
    have h1 := ((h0.trans (Below.setCell' (b := U) (i := 0) W (.int .u8 (y0 : Nat)) (Nat.le_refl _))).trans (Below.setCell' (b := U) (i := 1) _ (.int .u8 (y1 : Nat)) (Nat.le_refl _))).trans (Below.setCell' (b := U) (i := 2) _ (.int .u8 (y2 : Nat)) (Nat.le_refl _))
    rw [← hW4]
    exact ⟨h1.os, h1.tape, h1.output, h1.size, h1.block⟩
  have x0 : W4.cell? ⟨U, 0, none⟩ = some (.int .u8 (y0 : Nat)) := by simp [World.cell?, hb4]
  have x1 : W4.cell? ⟨U, 1, none⟩ = some (.int .u8 (y1 : Nat)) := by simp [World.cell?, hb4]
  have x2 : W4.cell? ⟨U, 2, none⟩ = some (.int .u8 (y2 : Nat)) := by simp [World.cell?, hb4]
  rw [hW4]
  clear z0 z1 z2 q0 q1 q2 hcW hW4 hb4
  go_wp2
  try simp only [Exit.inBlock, Exit.then]
  refine bodyPost_ret (v := .tuple #[.agg #[.int .u8 (y0 : Nat), .int .u8 (y1 : Nat), .int .u8 (y2 : Nat)], .bool true]) ?_ rfl ?_
  · rw [results_cell_tmp rfl]
    go_simp
  rw [HV.out]
  exact ⟨rfl, by rw [hU]; exact HB4.out⟩

theorem key_of (s : ByteArray) (p : Nat) : ∃ kl, keyOf Tryd.prog 78 (threeV s p) = some kl := key3 _ _ _ (bt_lt _ _) (bt_lt _ _) (bt_lt _ _)
/-- What is looked up in the map. -/
theorem look3 (W : World) (mb : Nat) (s : ByteArray) (k p : Nat) (D : DataW Unit) (h : W.ownsMap Tryd.prog 78 (plainElem Tryd.prog 21) mb k D) (hM : MapOK D s k) :
    (Instr.lookup 51 (.map (some mb)) (threeV s p) true).run Tryd.prog W = .ok (.tuple #[.int .i32 ((lastP s k (three s p)).getD 0 : Nat), .bool (lastP s k (three s p)).isSome]) W := by
  obtain ⟨kl, hkl⟩ := key_of s p
  obtain ⟨h1, h2⟩ := hM _ _ _ kl hkl
  obtain ⟨es, clock, hb, F, _, rfl⟩ := h
  rcases Maps.fit_look true law3 Tryd.underlying51 (zero32 W) hb F hkl with ⟨hrun, _, hat⟩ | ⟨e0, y, _, _, hrun, hR, hat, _⟩
  · have hf := Maps.has_false_of_atKey hat
    rw [hf] at h1
    have hn : lastP s k (three s p) = none := by
      cases hl : lastP s k (three s p) with
      | none => rfl
      | some q => rw [show (bt s p, bt s (p + 1), bt s (p + 2)) = three s p from rfl, hl] at h1; simp at h1
    rw [hrun, hn]
    rfl
  · have ht := Maps.has_true_of_atKey hat
    rw [ht] at h1
    obtain ⟨q, hq⟩ : ∃ q, lastP s k (three s p) = some q := by
      cases hl : lastP s k (three s p) with
      | none => rw [show (bt s p, bt s (p + 1), bt s (p + 2)) = three s p from rfl, hl] at h1; simp at h1
      | some q => exact ⟨q, rfl⟩
    have h3 := h2 q hq
    rw [hat] at h3
    obtain ⟨a, ha, hy, _⟩ := plainElem_int_inv Tryd.underlying21 hR
    rw [hy] at h3
    simp at h3
    rw [hrun, hq, ha]
    simp [h3]
set_option maxRecDepth 20000 in
set_option maxHeartbeats 1000000 in
theorem lastMet_ok (w : World) (f mb ob : Nat) (s : ByteArray) (k p : Nat) (h : FS w f mb ob s k) :
    Calls Tryd.prog 41 #[.pointer (some ⟨f, 0, none⟩), threeV s p] w fun e w' => e = .returned (.int .i32 (enc32 (lastP s k (three s p)))) ∧ Below w.heap.size w w' := by
  obtain ⟨c0, c1, c2⟩ := h.cells
  obtain ⟨D, hD, hM, hI⟩ := h.map
  have hlook : ∀ o n, (Instr.lookup 51 (.map (some mb)) (threeV s p) true).run Tryd.prog ((w.alloc o).drewN n) = .ok (.tuple #[.int .i32 ((lastP s k (three s p)).getD 0 : Nat), .bool (lastP s k (three s p)).isSome]) ((w.alloc o).drewN n) := fun o n => look3 ((w.alloc o).drewN n) mb s k p D (hD.alloc o) hM
  have hc1 : ∀ o, (w.alloc o).cell? ⟨f, 1, none⟩ = some (.map (some mb)) := fun o => by rw [World.cell?_alloc_some w ⟨f, 1, none⟩ o (by rw [c1]; rfl)]; exact c1
  obtain ⟨a0, a1, a2, hV⟩ : ∃ a0 a1 a2 : Nat, threeV s p = .agg #[.int .u8 (a0 : Nat), .int .u8 (a1 : Nat), .int .u8 (a2 : Nat)] := ⟨_, _, _, rfl⟩
  rw [hV] at hlook ⊢
  obtain ⟨W, hW⟩ : ∃ W, w.alloc (.cells #[.int .u8 (a0 : Nat), .int .u8 (a1 : Nat), .int .u8 (a2 : Nat)] 78) = W := ⟨_, rfl⟩
  have hl := hlook (.cells #[.int .u8 (a0 : Nat), .int .u8 (a1 : Nat), .int .u8 (a2 : Nat)] 78)
  have hc := hc1 (.cells #[.int .u8 (a0 : Nat), .int .u8 (a1 : Nat), .int .u8 (a2 : Nat)] 78)
  have hbW : W.heap[w.heap.size]? = some (.cells #[.int .u8 (a0 : Nat), .int .u8 (a1 : Nat), .int .u8 (a2 : Nat)] 78 (0, 0)) := by rw [← hW]; exact heap_alloc_new _ _
  have HB : Hid (Below w.heap.size w W) := by rw [← hW]; exact (Below.refl _ _).alloc (Nat.le_refl _) _
  rw [hW] at hl hc
  obtain ⟨U, hU⟩ : ∃ U, w.heap.size = U := ⟨_, rfl⟩
  rw [hU] at hbW
  have z0 : W.cell? ⟨U, 0, none⟩ = some (.int .u8 (a0 : Nat)) := by simp [World.cell?, hbW]
  have z1 : W.cell? ⟨U, 1, none⟩ = some (.int .u8 (a1 : Nat)) := by simp [World.cell?, hbW]
  have z2 : W.cell? ⟨U, 2, none⟩ = some (.int .u8 (a2 : Nat)) := by simp [World.cell?, hbW]
  clear hV hM hI hD h hlook hc1 c0 c1 c2 hbW
  cases hb : lastP s k (three s p) with
  | some q =>
    rw [hb] at hl
    simp only [Option.getD, Option.isSome] at hl
    clear hb
    go_enter Tryd.func41, Tryd.ntmps41
    go_wp2_with fail
    try rw [hW]
    try rw [hU]
    go_quiet (fail)
    go_wp2
    go_ret
    exact ⟨rfl, HB.out.trans (Below.drewN' _ _ _)⟩
  | none =>
    rw [hb] at hl
    simp only [Option.getD, Option.isSome] at hl
    clear hb
    go_enter Tryd.func41, Tryd.ntmps41
    go_wp2_with fail
    try rw [hW]
    try rw [hU]
    go_quiet (fail)
    go_wp2
    go_ret
    exact ⟨rfl, HB.out.trans (Below.drewN' _ _ _)⟩
end Go.Proofs.YtbcflkdaeboflaaDoor.D5
