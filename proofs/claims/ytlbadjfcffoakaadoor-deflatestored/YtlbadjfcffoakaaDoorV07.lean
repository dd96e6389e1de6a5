/- Layer 5: the map by three bytes; a finder's state. -/
/- Layer 5: the three bytes at a place; the last place that was met. -/
/- Layer 5: a place is met. -/
/- Layer 5: how many bytes are the same at two places. -/
import Derived.Test.YtlbadjfcffoakaaDoorChecked
import Derived.Test.YtlbadjfcffoakaaDoorV06
import Derived.Tactics2
import Derived.WalkKit
import Derived.WalkLawsBesides
import Derived.WalkSpells
import Derived.Outline
import Derived.BigQuiet
import Derived.Deep.QuietTactic
import Derived.Deep.AppendLies
import Derived.Deep.RegionHeldLaw
import Derived.Deep.RegionLaw
import Derived.Deep.RegionWith
import Derived.Laws.NewBlocks
import Derived.LoopN
import Derived.Deep.OwnRows
import Derived.RowKit3
import Derived.Laws.AppendOwn
import Derived.Laws.OwnMore
import Derived.Laws.IdiomStrings
import Derived.Lib.AppendStr
import Derived.OwnWalk
import Derived.BigRegion
import Derived.Maps.OwnSet
import Derived.Maps.OwnOps
import Derived.DeepKeys4
import Derived.ProofKit
namespace Go.Proofs.YtlbadjfcffoakaaDoor.D5
open Go.RowKit Go.Maps
set_option linter.unusedVariables false
set_option maxRecDepth 20000

theorem laidOut3 : laidOutB Tryd.prog = true := by kernel_rfl
theorem row3 : 85 < Tryd.prog.types.size := of_decide_eq_true (by kernel_rfl)
theorem wide3 : (match Tryd.prog.underlying 85 with | some (.array _ _) | some (.struct _) => true | _ => false) = true := by kernel_rfl
set_option maxRecDepth 20000 in
theorem law3 : Keyed Tryd.prog 85 := Keyed.of_law (deep_law_laid laidOut3 (m := 2) (by omega) row3 (by kernel_rfl) wide3)
theorem zero32 (w : World) : (zeroValue 21).run Tryd.prog w = .ok (.int .i32 0) w := by kernel_rfl
def v3 (a b c : Nat) : Value := .agg #[.int .u8 (a : Nat), .int .u8 (b : Nat), .int .u8 (c : Nat)]
theorem cellsT3 : Tryd.prog.cellsOf 85 = 3 := by kernel_rfl
theorem cellsU8 : Tryd.prog.cellsOf 5 = 1 := by kernel_rfl
theorem sizeT3 : ∃ n, Tryd.prog.types.size + 1 = n + 2 := ⟨Tryd.prog.types.size - 1, by have := row3; omega⟩
theorem key3 (a b c : Nat) (ha : a < 256) (hb : b < 256) (hc : c < 256) : ∃ kl, keyOf Tryd.prog 85 (v3 a b c) = some kl := by
  have hk : Tryd.prog.keyType 85 = true := by kernel_rfl
  have hw : ∀ x : Nat, x < 256 → (Lit.int .u8 (x : Int)).wf = true := fun x hx => by
    have h1 : IntKind.u8.min = 0 := rfl
    have h2 : IntKind.u8.max = 255 := rfl
    simp [Lit.wf, h1, h2]; omega
  obtain ⟨n, hn⟩ := sizeT3
  unfold keyOf v3
  rw [Tryd.underlying85]
  simp only [hk, Bool.true_and]
  rw [hn]
  have hf : (Value.agg #[.int .u8 (a : Nat), .int .u8 (b : Nat), .int .u8 (c : Nat)]).formed Tryd.prog 85 = true := by simp [Value.formed, Tryd.underlying85, cellsT3]
  rw [if_pos hf]
  simp [Program.keyLits, Tryd.underlying85, Tryd.underlying5, cellsT3, cellsU8, Value.cells, List.range_succ, hw a ha, hw b hb, hw c hc]
theorem bt_at (s : ByteArray) (a : Nat) (h : a < s.size) : (s[a]'h).toNat = bt s a := by
  have h' : a < s.data.size := h
  unfold bt
  rw [List.getD_eq_getElem?_getD, Array.getElem?_toList, Array.getElem?_eq_getElem h']
  rfl
theorem wrapN (T : Nat) (h : T ≤ 4611686018427387904) : IntKind.i64.wrap (T : Int) = (T : Int) := by rw [IntKind.wrap_i64]; omega
theorem wrapN64 (T : Nat) (h : T ≤ 4611686018427387904) : wrap64 (T : Int) = (T : Int) := by unfold wrap64; omega
theorem add_zero_addr (g j : Nat) : (⟨g, 0, none⟩ : Addr).add j = ⟨g, j, none⟩ := by
  unfold Addr.add; split
  · subst_vars; rfl
  · simp
theorem block_setCell {w : World} {b i : Nat} {cs : Array Value} {t : TypeId} {u : Value} (h : w.heap[b]? = some (.cells cs t (0, 0))) : (w.setCell ⟨b, i, none⟩ u).heap[b]? = some (.cells (cs.setIfInBounds i u) t (0, 0)) := by
  have hlt := lt_of_block h
  have h' : w.heap[b] = .cells cs t (0, 0) := by simpa [Array.getElem?_eq_getElem hlt] using h
  show (w.heap.modify b _)[b]? = _
  rw [Array.getElem?_eq_getElem (by simpa using hlt), Array.getElem_modify_self, h']
  rfl
theorem Below.drewN' (B : Nat) (w : World) (k : Nat) : Below B w (w.drewN k) := ⟨rfl, rfl, rfl, Nat.le_refl _, fun _ _ => rfl⟩
theorem kept_row {w w' : World} {B b size n : Nat} {E T : TypeId} {v : Value} {xs : List Value} {cs : Array Value} {mk : Nat × Nat} (hbl : w.heap[b]? = some (.cells cs T mk)) (hT : T ≠ E) (hown : w.ownsRow B E size v n xs) (hg : w.grownBy w' v.ownBlock) : w'.heap[b]? = w.heap[b]? :=
  hg.block b (lt_of_block hbl) (fun e => by
    rcases hown.2 with ⟨rfl, _⟩ | ⟨g, cap, cur, rfl, hB, hh, _⟩
    · simp [Value.ownBlock] at e
    · have e' : b = g := by simpa [Value.ownBlock] using e
      subst e'; rw [hbl] at hh; cases hh; exact hT rfl)
theorem Below.grown {B size n : Nat} {E : TypeId} {w w' : World} {v : Value} {xs : List Value} (hown : w.ownsRow B E size v n xs) (hg : w.grownBy w' v.ownBlock) (hB : B ≤ w.heap.size) : Below B w w' :=
  ⟨hg.os, hg.tape, hg.output, hg.size, fun k hk => hg.block k (by omega) (fun e => by have := (hown.lt k e.symm).1; omega)⟩
theorem Below.setCell' {B b i : Nat} (w : World) (u : Value) (hB : B ≤ b) : Below B w (w.setCell ⟨b, i, none⟩ u) :=
  ⟨rfl, rfl, rfl, by simp [World.setCell], fun k hk => Below.heap_setCell _ _ _ _ (by show k ≠ b; omega)⟩

def MapOK (D : DataW Unit) (s : ByteArray) (k : Nat) : Prop :=
  ∀ a b c kl, keyOf Tryd.prog 85 (v3 a b c) = some kl → Maps.has D kl = (lastP s k (a, b, c)).isSome ∧ ∀ p, lastP s k (a, b, c) = some p → D.atKey kl (.lit (.int .i32 0)) = .lit (.int .i32 (p : Nat))
theorem mapOK_nil (s : ByteArray) : MapOK (.map []) s 0 := by
  intro a b c kl _
  exact ⟨rfl, fun p h => by simp [lastP] at h⟩
theorem v3_inj {a b c a' b' c' : Nat} (h : v3 a b c = v3 a' b' c') : (a, b, c) = (a', b', c') := by
  simp [v3] at h
  simp only [Prod.mk.injEq]
  omega
theorem MapOK.put {D : DataW Unit} {s : ByteArray} {k : Nat} {kl : Lit} (h : MapOK D s k) (hD : Maps.IsMap D) (hk : keyOf Tryd.prog 85 (v3 (bt s k) (bt s (k + 1)) (bt s (k + 2))) = some kl) : MapOK (D.put kl (.lit (.int .i32 (k : Nat)))) s (k + 1) := by
  intro a b c kl' hk'
  by_cases e : (a, b, c) = three s k
  · have e' : v3 a b c = v3 (bt s k) (bt s (k + 1)) (bt s (k + 2)) := by
      unfold three at e
      simp only [Prod.mk.injEq] at e
      obtain ⟨rfl, rfl, rfl⟩ := e
      rfl
    rw [e', hk] at hk'
    cases hk'
    have el : lastP s (k + 1) (a, b, c) = some k := by unfold lastP; rw [if_pos e.symm]
    rw [el]
    refine ⟨Maps.has_put_same hD (law3.key hk) _, fun p hp => ?_⟩
    cases hp
    exact Maps.atKey_put_same hD (law3.key hk) _ _
  · have hne : kl' ≠ kl := fun h => by
      subst h
      have := law3.inj hk' hk
      exact e (v3_inj this)
    have el : lastP s (k + 1) (a, b, c) = lastP s k (a, b, c) := by
      rw [lastP, if_neg (fun h => e h.symm)]
    rw [el, Maps.has_put_other hne]
    refine ⟨(h a b c kl' hk').1, fun p hp => ?_⟩
    rw [Maps.atKey_put_other hne]
    exact (h a b c kl' hk').2 p hp
structure FS (w : World) (f mb ob : Nat) (s : ByteArray) (k : Nat) : Prop where
  blk : w.heap[f]? = some (.cells #[.string s, .map (some mb), .slice (some ⟨ob, 0, none⟩) s.size s.size] 58 (0, 0))
  map : ∃ D : DataW Unit, w.ownsMap Tryd.prog 85 (plainElem Tryd.prog 21) mb k D ∧ MapOK D s k ∧ Maps.IsMap D
  old : ∃ cs : Array Value, w.heap[ob]? = some (.cells cs 21 (0, 0)) ∧ cs.size = s.size ∧ ∀ i, i < k → cs[i]? = some (.int .i32 (enc32 (lastP s i (three s i))))
  small : s.size ≤ 1048576
structure TF (mb ob : Nat) (w w' : World) : Prop where
  os : w'.os = w.os
  tape : w'.tape = w.tape
  output : w'.output = w.output
  size : w.heap.size ≤ w'.heap.size
  block : ∀ k, k < w.heap.size → k ≠ mb → k ≠ ob → w'.heap[k]? = w.heap[k]?
theorem TF.refl (mb ob : Nat) (w : World) : TF mb ob w w := ⟨rfl, rfl, rfl, Nat.le_refl _, fun _ _ _ _ => rfl⟩
theorem TF.trans {mb ob : Nat} {u v w : World} (h : TF mb ob u v) (k : TF mb ob v w) : TF mb ob u w :=
  ⟨k.os.trans h.os, k.tape.trans h.tape, k.output.trans h.output, Nat.le_trans h.size k.size, fun i hl h1 h2 => (k.block i (Nat.lt_of_lt_of_le hl h.size) h1 h2).trans (h.block i hl h1 h2)⟩
theorem TF.drewN (mb ob : Nat) (w : World) (k : Nat) : TF mb ob w (w.drewN k) := ⟨rfl, rfl, rfl, Nat.le_refl _, fun _ _ _ _ => rfl⟩
theorem FS.drewN {w : World} {f mb ob : Nat} {s : ByteArray} {k : Nat} (h : FS w f mb ob s k) (n : Nat) : FS (w.drewN n) f mb ob s k := ⟨h.blk, h.map, h.old, h.small⟩
theorem FS.cells {w : World} {f mb ob : Nat} {s : ByteArray} {k : Nat} (h : FS w f mb ob s k) : w.cell? ⟨f, 0, none⟩ = some (.string s) ∧ w.cell? ⟨f, 1, none⟩ = some (.map (some mb)) ∧ w.cell? ⟨f, 2, none⟩ = some (.slice (some ⟨ob, 0, none⟩) s.size s.size) := by
  have h1 := h.blk
  exact ⟨by simp [World.cell?, h1], by simp [World.cell?, h1], by simp [World.cell?, h1]⟩
def threeV (s : ByteArray) (p : Nat) : Value := v3 (bt s p) (bt s (p + 1)) (bt s (p + 2))
end Go.Proofs.YtlbadjfcffoakaaDoor.D5
namespace Go.Proofs.YtlbadjfcffoakaaDoor.D5
open Go.RowKit Go.Maps
set_option linter.unusedVariables false
set_option maxRecDepth 20000
set_option maxRecDepth 20000

theorem results_cell_tmp {fn : Func} {p q : Tmp} {ty : TypeId} (h : fn.results = #[.cell p ty, .tmp q]) (tmps : Array Value) (P : Program) (w : World) :
    (results fn tmps).run P w = ((asAddr (tmps.getD p undef)).run P w).andThen fun a w₁ => ((loadVar ty a).run P w₁).andThen fun x w₂ => .ok (.tuple #[x, tmps.getD q undef]) w₂ := by
  simp only [results, h]
  simp [Sem.run_bind, Result.andThen]
set_option maxHeartbeats 1000000 in
theorem threeAt_no (w : World) (f : Nat) (s : ByteArray) (p : Nat) (hc : w.cell? ⟨f, 0, none⟩ = some (.string s)) (hp : s.size < p + 3) (hp2 : p ≤ 4194304) (hs : s.size ≤ 1048576) :
    Calls Tryd.prog 41 #[.pointer (some ⟨f, 0, none⟩), .int .i64 p] w fun e w' => e = .returned (.tuple #[v3 0 0 0, .bool false]) ∧ Below w.heap.size w w' := by
  obtain ⟨q, hq⟩ : ∃ q, p + 3 = q := ⟨_, rfl⟩
  have j1 : (p : Int) + 3 = (q : Int) := by omega
  have k1 := wrapN q (by omega)
  have i1 : (s.size : Int) < (q : Int) := by omega
  have hc2 : ∀ o, (w.alloc o).cell? ⟨f, 0, none⟩ = some (.string s) := fun o => by rw [World.cell?_alloc_some w ⟨f, 0, none⟩ o (by rw [hc]; rfl)]; exact hc
  clear hq hp
  go_enter Tryd.func41, Tryd.ntmps41
  go_wp2
  try simp only [Exit.inBlock, Exit.then]
  have hb : (w.alloc (.cells #[.int .u8 0, .int .u8 0, .int .u8 0] 85)).heap[w.heap.size]? = some (.cells #[.int .u8 0, .int .u8 0, .int .u8 0] 85 (0, 0)) := heap_alloc_new _ _
  obtain ⟨W, hW⟩ : ∃ W, w.alloc (.cells #[.int .u8 0, .int .u8 0, .int .u8 0] 85) = W := ⟨_, rfl⟩
  have HBL : Hid (Below w.heap.size w W) := by rw [← hW]; exact (Below.refl _ _).alloc (Nat.le_refl _) _
  rw [hW] at hb ⊢
  have x0 : W.cell? ⟨w.heap.size, 0, none⟩ = some (.int .u8 0) := by simp [World.cell?, hb]
  have x1 : W.cell? ⟨w.heap.size, 1, none⟩ = some (.int .u8 0) := by simp [World.cell?, hb]
  have x2 : W.cell? ⟨w.heap.size, 2, none⟩ = some (.int .u8 0) := by simp [World.cell?, hb]
  refine bodyPost_ret (v := .tuple #[v3 0 0 0, .bool false]) ?_ rfl ?_
  · rw [results_cell_tmp rfl]
    go_simp
    rfl
  exact ⟨rfl, HBL.out⟩
set_option maxHeartbeats 1000000 in
theorem threeAt_ok (w : World) (f : Nat) (s : ByteArray) (p : Nat) (hc : w.cell? ⟨f, 0, none⟩ = some (.string s)) (hp : p + 3 ≤ s.size) (hs : s.size ≤ 1048576) :
    Calls Tryd.prog 41 #[.pointer (some ⟨f, 0, none⟩), .int .i64 p] w fun e w' => e = .returned (.tuple #[threeV s p, .bool true]) ∧ Below w.heap.size w w' := by
  have g0 : p < s.size := by omega
  have b0 := bt_at s p g0
  obtain ⟨p1, e1⟩ : ∃ q, p + 1 = q := ⟨_, rfl⟩
  obtain ⟨p2, e2⟩ : ∃ q, p + 2 = q := ⟨_, rfl⟩
  obtain ⟨p3, e3⟩ : ∃ q, p + 3 = q := ⟨_, rfl⟩
  have i0 : (p : Int) < (s.size : Int) := by omega
  have i1 : (p1 : Int) < (s.size : Int) := by omega
  have i2 : (p2 : Int) < (s.size : Int) := by omega
  have i3 : ¬ (s.size : Int) < (p3 : Int) := by omega
  have j1 : (p : Int) + 1 = (p1 : Int) := by omega
  have j2 : (p : Int) + 2 = (p2 : Int) := by omega
  have j3 : (p : Int) + 3 = (p3 : Int) := by omega
  have k1 := wrapN p1 (by omega)
  have k2 := wrapN p2 (by omega)
  have k3 := wrapN p3 (by omega)
  have g1 : p1 < s.size := by omega
  have g2 : p2 < s.size := by omega
  have b1 := bt_at s p1 g1
  have b2 := bt_at s p2 g2
  have HV : Hid (threeV s p = .agg #[.int .u8 (bt s p : Nat), .int .u8 (bt s p1 : Nat), .int .u8 (bt s p2 : Nat)]) := by
    show _ = _
    rw [← e1, ← e2]; rfl
  obtain ⟨y0, f0⟩ : ∃ y, bt s p = y := ⟨_, rfl⟩
  obtain ⟨y1, f1⟩ : ∃ y, bt s p1 = y := ⟨_, rfl⟩
  obtain ⟨y2, f2⟩ : ∃ y, bt s p2 = y := ⟨_, rfl⟩
  rw [f0] at b0 HV
  rw [f1] at b1 HV
  rw [f2] at b2 HV
  have hc2 : ∀ o, (w.alloc o).cell? ⟨f, 0, none⟩ = some (.string s) := fun o => by rw [World.cell?_alloc_some w ⟨f, 0, none⟩ o (by rw [hc]; rfl)]; exact hc
  clear f0 f1 f2 e1 e2 e3 hp
  go_enter Tryd.func41, Tryd.ntmps41
  go_wp2_with fail
  obtain ⟨W, hW⟩ : ∃ W, w.alloc (.cells #[.int .u8 0, .int .u8 0, .int .u8 0] 85) = W := ⟨_, rfl⟩
  have hcW : W.cell? ⟨f, 0, none⟩ = some (.string s) := by rw [← hW]; exact hc2 _
  have hbW : W.heap[w.heap.size]? = some (.cells #[.int .u8 0, .int .u8 0, .int .u8 0] 85 (0, 0)) := by rw [← hW]; exact heap_alloc_new _ _
  have HBL : Hid (W.heap[w.heap.size]? = some (.cells #[.int .u8 0, .int .u8 0, .int .u8 0] 85 (0, 0)) ∧ Below w.heap.size w W) := ⟨hbW, by rw [← hW]; exact (Below.refl _ _).alloc (Nat.le_refl _) _⟩
  obtain ⟨U, hU⟩ : ∃ U, w.heap.size = U := ⟨_, rfl⟩
  rw [hU] at hbW
  have z0 : W.cell? ⟨U, 0, none⟩ = some (.int .u8 0) := by simp [World.cell?, hbW]
  have z1 : W.cell? ⟨U, 1, none⟩ = some (.int .u8 0) := by simp [World.cell?, hbW]
  have z2 : W.cell? ⟨U, 2, none⟩ = some (.int .u8 0) := by simp [World.cell?, hbW]
  have q0 : W.frozen? ⟨U, 0, none⟩ = false := by simp [World.frozen?, hbW]
  have q1 : W.frozen? ⟨U, 1, none⟩ = false := by simp [World.frozen?, hbW]
  have q2 : W.frozen? ⟨U, 2, none⟩ = false := by simp [World.frozen?, hbW]
  rw [hW, hU]
  clear hc2 hc hW hbW i3 j3 k3
  go_region
  obtain ⟨W4, hW4⟩ : ∃ W4, (((W.setCell ⟨U, 0, none⟩ (.int .u8 (y0 : Nat))).setCell ⟨U, 1, none⟩ (.int .u8 (y1 : Nat))).setCell ⟨U, 2, none⟩ (.int .u8 (y2 : Nat))).drew = W4 := ⟨_, rfl⟩
  have hb4 : W4.heap[U]? = some (.cells #[.int .u8 (y0 : Nat), .int .u8 (y1 : Nat), .int .u8 (y2 : Nat)] 85 (0, 0)) := by
    rw [← hW4]
    have h0 := HBL.out.1
    rw [hU] at h0
    exact block_setCell (i := 2) (block_setCell (i := 1) (block_setCell (i := 0) h0))
  have HB4 : Hid (Below U w W4) := by
    have h0 := HBL.out.2
    rw [hU] at h0
    have h1 := ((h0.trans (Below.setCell' (b := U) (i := 0) W (.int .u8 (y0 : Nat)) (Nat.le_refl _))).trans (Below.setCell' (b := U) (i := 1) _ (.int .u8 (y1 : Nat)) (Nat.le_refl _))).trans (Below.setCell' (b := U) (i := 2) _ (.int .u8 (y2 : Nat)) (Nat.le_refl _))
    rw [← hW4]
    exact ⟨h1.os, h1.tape, h1.output, h1.size, h1.block⟩
  have x0 : W4.cell? ⟨U, 0, none⟩ = some (.int .u8 (y0 : Nat)) := by simp [World.cell?, hb4]
  have x1 : W4.cell? ⟨U, 1, none⟩ = some (.int .u8 (y1 : Nat)) := by simp [World.cell?, hb4]
  have x2 : W4.cell? ⟨U, 2, none⟩ = some (.int .u8 (y2 : Nat)) := by simp [World.cell?, hb4]
  rw [hW4]
  clear z0 z1 z2 q0 q1 q2 hcW hW4 hb4
  go_wp2
  try simp only [Exit.inBlock, Exit.then]
  refine bodyPost_ret (v := .tuple #[.agg #[.int .u8 (y0 : Nat), .int .u8 (y1 : Nat), .int .u8 (y2 : Nat)], .bool true]) ?_ rfl ?_
  · rw [results_cell_tmp rfl]
    go_simp
  rw [HV.out]
  exact ⟨rfl, by rw [hU]; exact HB4.out⟩

theorem key_of (s : ByteArray) (p : Nat) : ∃ kl, keyOf Tryd.prog 85 (threeV s p) = some kl := key3 _ _ _ (bt_lt _ _) (bt_lt _ _) (bt_lt _ _)
theorem look3 (W : World) (mb : Nat) (s : ByteArray) (k p : Nat) (D : DataW Unit) (h : W.ownsMap Tryd.prog 85 (plainElem Tryd.prog 21) mb k D) (hM : MapOK D s k) :
    (Instr.lookup 55 (.map (some mb)) (threeV s p) true).run Tryd.prog W = .ok (.tuple #[.int .i32 ((lastP s k (three s p)).getD 0 : Nat), .bool (lastP s k (three s p)).isSome]) W := by
  obtain ⟨kl, hkl⟩ := key_of s p
  obtain ⟨h1, h2⟩ := hM _ _ _ kl hkl
  obtain ⟨es, clock, hb, F, _, rfl⟩ := h
  rcases Maps.fit_look true law3 Tryd.underlying55 (zero32 W) hb F hkl with ⟨hrun, _, hat⟩ | ⟨e0, y, _, _, hrun, hR, hat, _⟩
  · have hf := Maps.has_false_of_atKey hat
    rw [hf] at h1
    have hn : lastP s k (three s p) = none := by
      cases hl : lastP s k (three s p) with
      | none => rfl
      | some q => rw [show (bt s p, bt s (p + 1), bt s (p + 2)) = three s p from rfl, hl] at h1; simp at h1
    rw [hrun, hn]
    rfl
  · have ht := Maps.has_true_of_atKey hat
    rw [ht] at h1
    obtain ⟨q, hq⟩ : ∃ q, lastP s k (three s p) = some q := by
      cases hl : lastP s k (three s p) with
      | none => rw [show (bt s p, bt s (p + 1), bt s (p + 2)) = three s p from rfl, hl] at h1; simp at h1
      | some q => exact ⟨q, rfl⟩
    have h3 := h2 q hq
    rw [hat] at h3
    obtain ⟨a, ha, hy, _⟩ := plainElem_int_inv Tryd.underlying21 hR
    rw [hy] at h3
    simp at h3
    rw [hrun, hq, ha]
    simp [h3]
set_option maxRecDepth 20000 in
set_option maxHeartbeats 1000000 in
theorem lastMet_ok (w : World) (f mb ob : Nat) (s : ByteArray) (k p : Nat) (h : FS w f mb ob s k) :
    Calls Tryd.prog 42 #[.pointer (some ⟨f, 0, none⟩), threeV s p] w fun e w' => e = .returned (.int .i32 (enc32 (lastP s k (three s p)))) ∧ Below w.heap.size w w' := by
  obtain ⟨c0, c1, c2⟩ := h.cells
  obtain ⟨D, hD, hM, hI⟩ := h.map
  have hlook : ∀ o n, (Instr.lookup 55 (.map (some mb)) (threeV s p) true).run Tryd.prog ((w.alloc o).drewN n) = .ok (.tuple #[.int .i32 ((lastP s k (three s p)).getD 0 : Nat), .bool (lastP s k (three s p)).isSome]) ((w.alloc o).drewN n) := fun o n => look3 ((w.alloc o).drewN n) mb s k p D (hD.alloc o) hM
  have hc1 : ∀ o, (w.alloc o).cell? ⟨f, 1, none⟩ = some (.map (some mb)) := fun o => by rw [World.cell?_alloc_some w ⟨f, 1, none⟩ o (by rw [c1]; rfl)]; exact c1
  obtain ⟨a0, a1, a2, hV⟩ : ∃ a0 a1 a2 : Nat, threeV s p = .agg #[.int .u8 (a0 : Nat), .int .u8 (a1 : Nat), .int .u8 (a2 : Nat)] := ⟨_, _, _, rfl⟩
  rw [hV] at hlook ⊢
  obtain ⟨W, hW⟩ : ∃ W, w.alloc (.cells #[.int .u8 (a0 : Nat), .int .u8 (a1 : Nat), .int .u8 (a2 : Nat)] 85) = W := ⟨_, rfl⟩
  have hl := hlook (.cells #[.int .u8 (a0 : Nat), .int .u8 (a1 : Nat), .int .u8 (a2 : Nat)] 85)
  have hc := hc1 (.cells #[.int .u8 (a0 : Nat), .int .u8 (a1 : Nat), .int .u8 (a2 : Nat)] 85)
  have hbW : W.heap[w.heap.size]? = some (.cells #[.int .u8 (a0 : Nat), .int .u8 (a1 : Nat), .int .u8 (a2 : Nat)] 85 (0, 0)) := by rw [← hW]; exact heap_alloc_new _ _
  have HB : Hid (Below w.heap.size w W) := by rw [← hW]; exact (Below.refl _ _).alloc (Nat.le_refl _) _
  rw [hW] at hl hc
  obtain ⟨U, hU⟩ : ∃ U, w.heap.size = U := ⟨_, rfl⟩
  rw [hU] at hbW
  have z0 : W.cell? ⟨U, 0, none⟩ = some (.int .u8 (a0 : Nat)) := by simp [World.cell?, hbW]
  have z1 : W.cell? ⟨U, 1, none⟩ = some (.int .u8 (a1 : Nat)) := by simp [World.cell?, hbW]
  have z2 : W.cell? ⟨U, 2, none⟩ = some (.int .u8 (a2 : Nat)) := by simp [World.cell?, hbW]
  clear hV hM hI hD h hlook hc1 c0 c1 c2 hbW
  cases hb : lastP s k (three s p) with
  | some q =>
    rw [hb] at hl
    simp only [Option.getD, Option.isSome] at hl
    clear hb
    go_enter Tryd.func42, Tryd.ntmps42
    go_wp2_with fail
    try rw [hW]
    try rw [hU]
    go_quiet (fail)
    go_wp2
    go_ret
    exact ⟨rfl, HB.out.trans (Below.drewN' _ _ _)⟩
  | none =>
    rw [hb] at hl
    simp only [Option.getD, Option.isSome] at hl
    clear hb
    go_enter Tryd.func42, Tryd.ntmps42
    go_wp2_with fail
    try rw [hW]
    try rw [hU]
    go_quiet (fail)
    go_wp2
    go_ret
    exact ⟨rfl, HB.out.trans (Below.drewN' _ _ _)⟩
end Go.Proofs.YtlbadjfcffoakaaDoor.D5
namespace Go.Proofs.YtlbadjfcffoakaaDoor.D5
open Go.RowKit Go.Maps
set_option linter.unusedVariables false
set_option maxRecDepth 20000

theorem TF.below {mb ob : Nat} {w w' : World} (h : Below w.heap.size w w') : TF mb ob w w' := ⟨h.os, h.tape, h.output, h.size, fun k hk _ _ => h.block k hk⟩
theorem ownsMap_block {w w' : World} {P : Program} {k : TypeId} {R : Value → Option (DataW Unit × List MemPlace)} {b n : Nat} {D : DataW Unit} (h : w.ownsMap P k R b n D) (hb : w'.heap[b]? = w.heap[b]?) : w'.ownsMap P k R b n D := by
  obtain ⟨es, clock, h1, h2⟩ := h
  exact ⟨es, clock, hb.trans h1, h2⟩
theorem FS.lt {w : World} {f mb ob : Nat} {s : ByteArray} {k : Nat} (h : FS w f mb ob s k) : f < w.heap.size ∧ mb < w.heap.size ∧ ob < w.heap.size := by
  obtain ⟨D, hD, _⟩ := h.map
  obtain ⟨cs, hc, _⟩ := h.old
  exact ⟨lt_of_block h.blk, hD.lt, lt_of_block hc⟩
theorem FS.apart {w : World} {f mb ob : Nat} {s : ByteArray} {k : Nat} (h : FS w f mb ob s k) : f ≠ mb ∧ f ≠ ob ∧ mb ≠ ob := by
  obtain ⟨D, ⟨es, clock, hb, _⟩, _⟩ := h.map
  obtain ⟨cs, hc, _⟩ := h.old
  have h1 := h.blk
  refine ⟨?_, ?_, ?_⟩
  · rintro rfl; rw [h1] at hb; cases hb
  · rintro rfl; rw [h1] at hc; simp at hc
  · rintro rfl; rw [hb] at hc; cases hc
theorem FS.kept {w w' : World} {f mb ob : Nat} {s : ByteArray} {k : Nat} (h : FS w f mb ob s k) (hf : w'.heap[f]? = w.heap[f]?) (hm : w'.heap[mb]? = w.heap[mb]?) (ho : w'.heap[ob]? = w.heap[ob]?) : FS w' f mb ob s k := by
  obtain ⟨D, hD, h1, h2⟩ := h.map
  obtain ⟨cs, hc, h3⟩ := h.old
  exact ⟨hf.trans h.blk, ⟨D, ownsMap_block hD hm, h1, h2⟩, ⟨cs, ho.trans hc, h3⟩, h.small⟩
theorem FS.below {w w' : World} {f mb ob : Nat} {s : ByteArray} {k : Nat} (h : FS w f mb ob s k) (hb : Below w.heap.size w w') : FS w' f mb ob s k :=
  h.kept (hb.block _ h.lt.1) (hb.block _ h.lt.2.1) (hb.block _ h.lt.2.2)
theorem FS.oldCell {w : World} {f mb ob : Nat} {s : ByteArray} {k i : Nat} (h : FS w f mb ob s k) (hi : i < s.size) : ∃ u, w.cell? ⟨ob, i, none⟩ = some u ∧ w.frozen? ⟨ob, i, none⟩ = false := by
  obtain ⟨cs, hc, hz, _⟩ := h.old
  exact ⟨cs[i], by simp [World.cell?, hc, hz, hi], by simp [World.frozen?, hc]⟩
def FSO (w : World) (f mb ob : Nat) (s : ByteArray) (k : Nat) : Prop := FS w f mb ob s k ∧ ∃ cs : Array Value, w.heap[ob]? = some (.cells cs 21 (0, 0)) ∧ cs.size = s.size ∧ ∀ i, i < k + 1 → cs[i]? = some (.int .i32 (enc32 (lastP s i (three s i))))
theorem FS.older {w : World} {f mb ob : Nat} {s : ByteArray} {k : Nat} (h : FS w f mb ob s k) (hk : k < s.size) : FSO (w.setCell ⟨ob, k, none⟩ (.int .i32 (enc32 (lastP s k (three s k))))) f mb ob s k := by
  obtain ⟨a1, a2, a3⟩ := h.apart
  obtain ⟨D, hD, h1, h2⟩ := h.map
  obtain ⟨cs, hc, hz, h3⟩ := h.old
  have hb := block_setCell (i := k) (u := .int .i32 (enc32 (lastP s k (three s k)))) hc
  have hall : ∀ i, i < k + 1 → (cs.setIfInBounds k (.int .i32 (enc32 (lastP s k (three s k)))))[i]? = some (.int .i32 (enc32 (lastP s i (three s i)))) := fun i hi => by
    by_cases e : i = k
    · subst e; simp [hz, hk]
    · rw [Array.getElem?_setIfInBounds_ne (by omega)]; exact h3 i (by omega)
  refine ⟨⟨?_, ⟨D, ownsMap_block hD ?_, h1, h2⟩, ⟨_, hb, by simp [hz], fun i hi => hall i (by omega)⟩, h.small⟩, _, hb, by simp [hz], hall⟩
  · rw [Below.heap_setCell _ _ _ _ (by exact a2)]; exact h.blk
  · exact Below.heap_setCell _ _ _ _ (by exact a3)
theorem TF.setOld (mb ob i : Nat) (w : World) (u : Value) : TF mb ob w (w.setCell ⟨ob, i, none⟩ u) :=
  ⟨rfl, rfl, rfl, by simp [World.setCell], fun k _ _ h2 => Below.heap_setCell _ _ _ _ (by exact h2)⟩
theorem wf32 (k : Nat) (h : k < 2147483648) : (Lit.int .i32 (k : Int)).wf = true := by
  have h1 : IntKind.i32.min = -2147483648 := rfl
  have h2 : IntKind.i32.max = 2147483647 := rfl
  simp [Lit.wf, h1, h2]; omega
theorem TF.mapped {mb ob : Nat} {w w' : World} (h : w.drew.grownBy w' (some mb)) : TF mb ob w w' :=
  ⟨h.os, h.tape, h.output, h.size, fun k hk h1 _ => h.block k hk (fun e => h1 (by simpa using e))⟩
theorem FSO.met {w w' : World} {f mb ob : Nat} {s : ByteArray} {k : Nat} {D : DataW Unit} {kl : Lit} (h : FSO w f mb ob s k) (hm : w'.ownsMap Tryd.prog 85 (plainElem Tryd.prog 21) mb (k + 1) (D.put kl (.lit (.int .i32 (k : Nat))))) (hg : w.drew.grownBy w' (some mb)) (hM : MapOK D s k) (hI : Maps.IsMap D) (hk : keyOf Tryd.prog 85 (threeV s k) = some kl) : FS w' f mb ob s (k + 1) := by
  obtain ⟨a1, a2, a3⟩ := h.1.apart
  obtain ⟨l1, l2, l3⟩ := h.1.lt
  obtain ⟨cs, hc, hz, h3⟩ := h.2
  refine ⟨(hg.block f l1 (fun e => a1 (by simpa using e))).trans h.1.blk, ⟨_, hm, hM.put hI hk, hI.put _ _⟩, ⟨cs, (hg.block ob l3 (fun e => a3 (by simpa using e.symm))).trans hc, hz, h3⟩, h.1.small⟩
set_option maxHeartbeats 1000000 in
theorem meet_no (w : World) (f mb ob : Nat) (s : ByteArray) (k : Nat) (h : FS w f mb ob s (met s k)) (hk : s.size < k + 3) (hk2 : k ≤ 4194304) :
    Calls Tryd.prog 25 #[.pointer (some ⟨f, 0, none⟩), .int .i64 k] w fun e w' => e = .returned (.tuple #[]) ∧ FS w' f mb ob s (met s (k + 1)) ∧ TF mb ob w w' := by
  have hs := h.small
  have H : Hid (FS w f mb ob s (met s k)) := h
  have HM : Hid (met s (k + 1) = met s k) := met_end hk
  have HF4 : Hid (∀ _ : Unit, Calls Tryd.prog 41 #[.pointer (some ⟨f, 0, none⟩), .int .i64 k] w fun e w' => e = .returned (.tuple #[v3 0 0 0, .bool false]) ∧ Below w.heap.size w w') := fun _ => threeAt_no w f s k h.cells.1 hk hk2 hs
  clear h
  go_enter Tryd.func25, Tryd.ntmps25
  go_wp2_with fail
  refine (HF4.out ()).mono ?_
  rintro e w1 ⟨rfl, hb1⟩
  have H1 : Hid (Below w.heap.size w w1) := hb1
  clear hb1
  have hv : v3 0 0 0 = .agg #[.int .u8 0, .int .u8 0, .int .u8 0] := rfl
  rw [hv]
  clear hv
  go_wp2
  refine bodyPost_ret (results_none rfl _ _ _) rfl ?_
  have hbl : Below w.heap.size w (w1.alloc (.cells #[.int .u8 0, .int .u8 0, .int .u8 0] 85)) := H1.out.alloc H1.out.size _
  exact ⟨rfl, by rw [HM.out]; exact H.out.below hbl, TF.below hbl⟩
set_option maxHeartbeats 1000000 in
theorem meet_ok (w : World) (f mb ob : Nat) (s : ByteArray) (k : Nat) (h : FS w f mb ob s k) (hk : k + 3 ≤ s.size) :
    Calls Tryd.prog 25 #[.pointer (some ⟨f, 0, none⟩), .int .i64 k] w fun e w' => e = .returned (.tuple #[]) ∧ FS w' f mb ob s (k + 1) ∧ TF mb ob w w' := by
  have hs := h.small
  have H : Hid (FS w f mb ob s k) := h
  have HF4 : Hid (∀ _ : Unit, Calls Tryd.prog 41 #[.pointer (some ⟨f, 0, none⟩), .int .i64 k] w fun e w' => e = .returned (.tuple #[threeV s k, .bool true]) ∧ Below w.heap.size w w') := fun _ => threeAt_ok w f s k h.cells.1 hk hs
  clear h
  go_enter Tryd.func25, Tryd.ntmps25
  go_wp2_with fail
  refine (HF4.out ()).mono ?_
  rintro e w1 ⟨rfl, hb1⟩
  have H1 : Hid (FS w1 f mb ob s k ∧ TF mb ob w w1) := ⟨H.out.below hb1, TF.below hb1⟩
  obtain ⟨a0, a1, a2, hV⟩ : ∃ a0 a1 a2 : Nat, threeV s k = .agg #[.int .u8 (a0 : Nat), .int .u8 (a1 : Nat), .int .u8 (a2 : Nat)] := ⟨_, _, _, rfl⟩
  obtain ⟨E, hE⟩ : ∃ E, enc32 (lastP s k (three s k)) = E := ⟨_, rfl⟩
  have HEE : Hid (enc32 (lastP s k (three s k)) = E ∧ threeV s k = .agg #[.int .u8 (a0 : Nat), .int .u8 (a1 : Nat), .int .u8 (a2 : Nat)]) := ⟨hE, hV⟩
  have HLM : Hid (∀ W', FS W' f mb ob s k → Calls Tryd.prog 42 #[.pointer (some ⟨f, 0, none⟩), .agg #[.int .u8 (a0 : Nat), .int .u8 (a1 : Nat), .int .u8 (a2 : Nat)]] W' fun e w' => e = .returned (.int .i32 E) ∧ Below W'.heap.size W' w') := fun W' hW' => by
    have h1 := lastMet_ok W' f mb ob s k k hW'
    rw [hE, hV] at h1
    exact h1
  rw [hV]
  obtain ⟨W, hW⟩ : ∃ W, w1.alloc (.cells #[.int .u8 (a0 : Nat), .int .u8 (a1 : Nat), .int .u8 (a2 : Nat)] 85) = W := ⟨_, rfl⟩
  have hbW : W.heap[w1.heap.size]? = some (.cells #[.int .u8 (a0 : Nat), .int .u8 (a1 : Nat), .int .u8 (a2 : Nat)] 85 (0, 0)) := by rw [← hW]; exact heap_alloc_new _ _
  have hbelW : Below w1.heap.size w1 W := by rw [← hW]; exact (Below.refl _ _).alloc (Nat.le_refl _) _
  have hFW : FS W f mb ob s k := H1.out.1.below hbelW
  have HFW : Hid (FS W f mb ob s k ∧ TF mb ob w W) := ⟨hFW, H1.out.2.trans (TF.below hbelW)⟩
  obtain ⟨U, hU⟩ : ∃ U, w1.heap.size = U := ⟨_, rfl⟩
  rw [hU] at hbW
  have HBW : Hid (W.heap[U]? = some (.cells #[.int .u8 (a0 : Nat), .int .u8 (a1 : Nat), .int .u8 (a2 : Nat)] 85 (0, 0))) := hbW
  have z0 : W.cell? ⟨U, 0, none⟩ = some (.int .u8 (a0 : Nat)) := by simp [World.cell?, hbW]
  have z1 : W.cell? ⟨U, 1, none⟩ = some (.int .u8 (a1 : Nat)) := by simp [World.cell?, hbW]
  have z2 : W.cell? ⟨U, 2, none⟩ = some (.int .u8 (a2 : Nat)) := by simp [World.cell?, hbW]
  obtain ⟨c0, c1, c2⟩ := hFW.cells
  have hki : (k : Int) < (s.size : Int) := by omega
  have hk0 : k < s.size := by omega
  clear hb1 hV hE hbW hbelW hFW
  go_wp2_with fail
  try rw [hW]
  try rw [hU]
  go_region_with (go_at_call 42; refine (HLM.out _ (by first | exact HFW.out.1 | exact HFW.out.1.drewN 1)).mono ?_; rintro e w3 ⟨rfl, hb3⟩; have h3 := FS.below (by first | exact HFW.out.1 | exact HFW.out.1.drewN 1) hb3; obtain ⟨d0, d1, d2⟩ := h3.cells; obtain ⟨u3, y1, y2⟩ := h3.oldCell hk0; have H3 : Hid (Below W.heap.size W w3) := ⟨hb3.os, hb3.tape, hb3.output, hb3.size, hb3.block⟩; clear hb3 h3)
  all_goals
    obtain ⟨w4, hw4⟩ : ∃ w4, w3.setCell ⟨ob, k, none⟩ (.int .i32 E) = w4 := ⟨_, rfl⟩
    have h3 := HFW.out.1.below H3.out
    have h4 : FSO w4 f mb ob s k := by rw [← hw4, ← HEE.out.1]; exact h3.older hk0
    have HT4 : Hid (TF mb ob w w4) := by
      rw [← hw4]
      exact HFW.out.2.trans ((TF.below H3.out).trans (TF.setOld _ _ _ _ _))
    have hU4 : w4.heap[U]? = some (.cells #[.int .u8 (a0 : Nat), .int .u8 (a1 : Nat), .int .u8 (a2 : Nat)] 85 (0, 0)) := by
      have hb := HBW.out
      have hne : U ≠ ob := by
        rintro rfl
        obtain ⟨cs, hc, _⟩ := HFW.out.1.old
        rw [hb] at hc; simp at hc
      rw [← hw4, Below.heap_setCell _ _ _ _ (by exact hne), H3.out.block U (lt_of_block hb)]
      exact hb
    have z0 : w4.cell? ⟨U, 0, none⟩ = some (.int .u8 (a0 : Nat)) := by simp [World.cell?, hU4]
    have z1 : w4.cell? ⟨U, 1, none⟩ = some (.int .u8 (a1 : Nat)) := by simp [World.cell?, hU4]
    have z2 : w4.cell? ⟨U, 2, none⟩ = some (.int .u8 (a2 : Nat)) := by simp [World.cell?, hU4]
    have H4 : Hid (FSO w4 f mb ob s k) := h4
    obtain ⟨e0, e1, e2⟩ := h4.1.cells
    obtain ⟨D, hD, hM, hI⟩ := h4.1.map
    obtain ⟨kl, hkl⟩ := key_of s k
    have HD : Hid (w4.ownsMap Tryd.prog 85 (plainElem Tryd.prog 21) mb k D ∧ MapOK D s k ∧ Maps.IsMap D ∧ keyOf Tryd.prog 85 (threeV s k) = some kl) := ⟨hD, hM, hI, hkl⟩
    have hkw : IntKind.i32.wrap (k : Int) = (k : Int) := by rw [IntKind.wrap_i32]; omega
    rw [hw4]
    clear d0 d1 d2 y1 y2 h3 h4 hw4 hU4 hD hM hI hkl c0 c1 c2 HLM
    have hkey : keyOf Tryd.prog 85 (.agg #[.int .u8 (a0 : Nat), .int .u8 (a1 : Nat), .int .u8 (a2 : Nat)]) = some kl := by rw [← HEE.out.2]; exact HD.out.2.2.2
    have hval : plainElem (H := Unit) Tryd.prog 21 (.int .i32 (k : Nat)) = some (.lit (.int .i32 (k : Nat)), []) := plainElem_int Tryd.underlying21 (wf32 k (by omega))
    obtain ⟨w5, hrun, r1, r2⟩ := World.ownsMap.update (w := w4.drew) HD.out.1 law3 Tryd.underlying55 (by unfold maxLen; omega) hkey hval
    have H5 : Hid (w5.ownsMap Tryd.prog 85 (plainElem Tryd.prog 21) mb (k + 1) (D.put kl (.lit (.int .i32 (k : Nat)))) ∧ w4.drew.grownBy w5 (some mb)) := ⟨r1, r2⟩
    clear r1 r2 hkey hval
    go_wp2_with fail
    go_region
    go_wp2
    go_end0
    refine ⟨rfl, ?_, HT4.out.trans (TF.mapped H5.out.2)⟩
    exact H4.out.met H5.out.1 H5.out.2 HD.out.2.1 HD.out.2.2.1 HD.out.2.2.2
theorem meet_at (w : World) (f mb ob : Nat) (s : ByteArray) (k : Nat) (h : FS w f mb ob s (met s k)) (hk : k ≤ 4194304) :
    Calls Tryd.prog 25 #[.pointer (some ⟨f, 0, none⟩), .int .i64 k] w fun e w' => e = .returned (.tuple #[]) ∧ FS w' f mb ob s (met s (k + 1)) ∧ TF mb ob w w' := by
  by_cases h3 : k + 3 ≤ s.size
  · rw [met_succ h3]
    rw [met_lt h3] at h
    exact meet_ok w f mb ob s k h h3
  · exact meet_no w f mb ob s k h (by omega) hk
end Go.Proofs.YtlbadjfcffoakaaDoor.D5
namespace Go.Proofs.YtlbadjfcffoakaaDoor.D5
open Go.RowKit
set_option linter.unusedVariables false
set_option maxRecDepth 20000

set_option maxRecDepth 20000 in
set_option maxHeartbeats 1000000 in
theorem alike_ok (w : World) (f : Nat) (s : ByteArray) (a b fl most : Nat) (hc : w.cell? ⟨f, 0, none⟩ = some (.string s)) (hab : a ≤ b) (hf : fl < most) (hb : b + most ≤ s.size) (hs : s.size ≤ 1048576) :
    Calls Tryd.prog 43 #[.pointer (some ⟨f, 0, none⟩), .int .i64 a, .int .i64 b, .int .i64 fl, .int .i64 most] w fun e w' => e = .returned (.int .i64 (alikeF s a b fl most : Nat)) ∧ ∃ k, w' = w.drewN k := by
  obtain ⟨r, hr⟩ : ∃ r, alikeF s a b fl most = r := ⟨_, rfl⟩
  rw [hr]
  unfold alikeF at hr
  obtain ⟨p, hp⟩ : ∃ p, a + fl = p := ⟨_, rfl⟩
  obtain ⟨q, hq⟩ : ∃ p, b + fl = p := ⟨_, rfl⟩
  have gp : p < s.size := by omega
  have gq : q < s.size := by omega
  have jp : (a : Int) + (fl : Int) = (p : Int) := by omega
  have jq : (b : Int) + (fl : Int) = (q : Int) := by omega
  have ip : (p : Int) < (s.size : Int) := by omega
  have iq : (q : Int) < (s.size : Int) := by omega
  have kp := wrapN p (by omega)
  have kq := wrapN q (by omega)
  have bp := bt_at s p gp
  have bq := bt_at s q gq
  rw [hp, hq] at hr
  obtain ⟨x, hx⟩ : ∃ x, bt s p = x := ⟨_, rfl⟩
  obtain ⟨y, hy⟩ : ∃ x, bt s q = x := ⟨_, rfl⟩
  rw [hx] at bp hr
  rw [hy] at bq hr
  clear hx hy hp hq
  by_cases hxy : x = y
  · rw [if_pos hxy] at hr
    have HR : Hid (runL s a b most 0 = r) := hr
    have hxb : ((x : Int) != (y : Int)) = false := by simp [hxy]
    clear hr
    go_enter Tryd.func43, Tryd.ntmps43
    go_wp2_with fail
    go_quiet (fail)
    clear hxb bp bq kp kq ip iq jp jq hxy
    go_wp2_with fail
    go_loopw [11] (fun v11 wr => ∃ n : Nat, v11 = .int .i64 (n : Nat) ∧ n ≤ most ∧ Hid (runL s a b (most - n) n = r ∧ ∃ j, wr = w.drewN j)) (fun v11 _ => most - (intOf v11).toNat)
    case atStart => exact ⟨0, rfl, Nat.zero_le _, HR.out, nq, rfl⟩
    case round =>
      obtain ⟨n, rfl, hn, HS⟩ := hrel
      obtain ⟨hrn, j, hj⟩ := HS.out
      have hcr : wr.cell? ⟨f, 0, none⟩ = some (.string s) := by rw [hj]; exact hc
      by_cases hlt : n < most
      · obtain ⟨p, hp⟩ : ∃ p, a + n = p := ⟨_, rfl⟩
        obtain ⟨q, hq⟩ : ∃ p, b + n = p := ⟨_, rfl⟩
        have gp : p < s.size := by omega
        have gq : q < s.size := by omega
        have jp : (a : Int) + (n : Int) = (p : Int) := by omega
        have jq : (b : Int) + (n : Int) = (q : Int) := by omega
        have ip : (p : Int) < (s.size : Int) := by omega
        have iq : (q : Int) < (s.size : Int) := by omega
        have kp := wrapN p (by omega)
        have kq := wrapN q (by omega)
        have hltb : decide ((n : Int) < (most : Int)) = true := by simp; omega
        have hlti : (n : Int) < (most : Int) := by omega
        have hst : runL s a b (most - n) n = if bt s p = bt s q then runL s a b (most - (n + 1)) (n + 1) else n := by
          rw [show most - n = (most - (n + 1)) + 1 by omega, runL, hp, hq]
        rw [hst] at hrn
        have bp := bt_at s p gp
        have bq := bt_at s q gq
        obtain ⟨x, hx⟩ : ∃ x, bt s p = x := ⟨_, rfl⟩
        obtain ⟨y, hy⟩ : ∃ x, bt s q = x := ⟨_, rfl⟩
        rw [hx] at bp hrn
        rw [hy] at bq hrn
        clear hx hy hp hq hst
        by_cases hxy : x = y
        · rw [if_pos hxy] at hrn
          have HN : Hid (runL s a b (most - (n + 1)) (n + 1) = r ∧ ∃ j, wr = w.drewN j) := ⟨hrn, j, hj⟩
          have hxb : ((x : Int) == (y : Int)) = true := by simp [hxy]
          subst hj
          clear hrn hxy
          go_wp2_with fail
          go_quiet (fail)
          have HN2 : Hid (runL s a b (most - (n + 1)) (n + 1) = r ∧ ∃ j', w.drewN (j + nq) = w.drewN j') := ⟨HN.out.1, j + nq, rfl⟩
          go_wp2
          exact ⟨⟨n + 1, by go_num, by omega, HN2⟩, by simp [intOf]; omega⟩
        · rw [if_neg hxy] at hrn
          subst hrn
          have hxb : ((x : Int) == (y : Int)) = false := by simp; omega
          subst hj
          clear hxy
          go_wp2_with fail
          go_quiet (fail)
          go_wp2
          go_ret
          exact ⟨rfl, j + nq, World.drewN_drewN _ _ _⟩
      · obtain rfl : n = most := by omega
        have hltb : decide ((n : Int) < (n : Int)) = false := by simp
        rw [Nat.sub_self] at hrn
        have hrn2 : n = r := hrn
        subst hrn2
        subst hj
        clear hrn
        go_wp2_with fail
        go_quiet (fail)
        go_wp2
        go_ret
        exact ⟨rfl, j + nq, World.drewN_drewN _ _ _⟩
  · rw [if_neg hxy] at hr
    subst hr
    have hxb : ((x : Int) != (y : Int)) = true := by simp; omega
    go_enter Tryd.func43, Tryd.ntmps43
    go_wp2_with fail
    go_quiet (fail)
    go_wp2
    go_ret
    exact ⟨rfl, nq, rfl⟩
theorem FS.oldAt {w : World} {f mb ob : Nat} {s : ByteArray} {k i : Nat} (h : FS w f mb ob s k) (hi : i < k) : w.cell? ⟨ob, i, none⟩ = some (.int .i32 (enc32 (lastP s i (three s i)))) := by
  obtain ⟨cs, hc, hz, h1⟩ := h.old
  simp [World.cell?, hc, h1 i hi]
end Go.Proofs.YtlbadjfcffoakaaDoor.D5
