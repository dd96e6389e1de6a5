/- A writer's state in memory, and the frame of its calls. -/
/- A writer's step: one bit more. -/
/- Writer.Bits: the bits of a number behind those that were written. -/
/- Bytes as a text: what string(b) gives of a row of bytes that the call owns. Bits of a text, and noughts up to a byte's end. -/
/- The writer's other calls: refusals, Align, Bytes, Place, Done. -/
/- Readers and writers that nobody made: taking and writing bits. -/
/- Plain mathematics: bits that were packed are the bits that are read. -/
/- The document's Bit, and one bit of a reader. -/
import Derived.Test.YtlbadjfcffoakaaDoorV20
import Derived.Test.YtlbadjfcffoakaaDoorV02
import Derived.Deep.AppendLies
import Derived.Laws.IdiomStrings
import Derived.Lib.AppendStr
namespace Go.Proofs.YtlbadjfcffoakaaDoor
open Go.RowKit

structure Fr (E : TypeId) (B b : Nat) (w w' : World) : Prop where
  os : w'.os = w.os
  tape : w'.tape = w.tape
  output : w'.output = w.output
  size : w.heap.size ≤ w'.heap.size
  block : ∀ k, k < w.heap.size → k ≠ b → (k < B ∨ ∀ cur m, w.heap[k]? ≠ some (.cells cur E m)) → w'.heap[k]? = w.heap[k]?
theorem Fr.refl (E : TypeId) (B b : Nat) (w : World) : Fr E B b w w := ⟨rfl, rfl, rfl, Nat.le_refl _, fun _ _ _ _ => rfl⟩
theorem Fr.trans {E : TypeId} {B b : Nat} {u v w : World} (h : Fr E B b u v) (k : Fr E B b v w) : Fr E B b u w :=
  ⟨k.os.trans h.os, k.tape.trans h.tape, k.output.trans h.output, Nat.le_trans h.size k.size, fun i hl hi hc =>
    have e := h.block i hl hi hc
    (k.block i (Nat.lt_of_lt_of_le hl h.size) hi (by rw [e]; exact hc)).trans e⟩
theorem Fr.drewN {E : TypeId} {B b : Nat} {w w' : World} (h : Fr E B b w w') (n : Nat) : Fr E B b w (w'.drewN n) := ⟨h.os, h.tape, h.output, h.size, h.block⟩
theorem Fr.drew {E : TypeId} {B b : Nat} {w w' : World} (h : Fr E B b w w') : Fr E B b w w'.drew := ⟨h.os, h.tape, h.output, h.size, h.block⟩
theorem Fr.only {E : TypeId} {B b : Nat} {w w' : World} (h : Only b w w') : Fr E B b w w' := ⟨h.os, h.tape, h.output, h.size, fun k hl hk _ => h.block k hl hk⟩
theorem Fr.alloc (E : TypeId) (B b : Nat) (w : World) (o : Obj) : Fr E B b w (w.alloc o) :=
  Fr.only (Only.of_below ((Below.refl _ _).alloc (Nat.le_refl _) _))
theorem Fr.setRow {E : TypeId} {B b g i : Nat} {w : World} {cur : Array Value} {m : Nat × Nat} (hg : w.heap[g]? = some (.cells cur E m)) (hB : B ≤ g) (u : Value) : Fr E B b w (w.setCell ⟨g, i, none⟩ u) :=
  ⟨rfl, rfl, rfl, by simp [World.setCell], fun k _ _ hc => Below.heap_setCell _ _ _ _ (fun e => by
    have e' : k = g := e
    subst e'
    rcases hc with hc | hc
    · omega
    · exact hc _ _ hg)⟩
theorem Fr.grown {E : TypeId} {B b : Nat} {w w' : World} {v : Value} {n size : Nat} {xs : List Value} (ho : w.ownsRow B E size v n xs) (hg : w.grownBy w' v.ownBlock) : Fr E B b w w' :=
  ⟨hg.os, hg.tape, hg.output, hg.size, fun k hl _ hc => hg.block k hl (fun e => by
    rcases ho.2 with ⟨rfl, _⟩ | ⟨g, cap, cur, rfl, hB, hh, _⟩
    · simp [Value.ownBlock] at e
    · have e' : k = g := by simpa [Value.ownBlock] using e
      subst e'
      rcases hc with hc | hc
      · omega
      · exact hc _ _ hh)⟩
theorem Fr.below {E : TypeId} {B b : Nat} {w w' : World} (h : Fr E B b w w') (hb : B ≤ b) (hB : B ≤ w.heap.size) : Below B w w' :=
  ⟨h.os, h.tape, h.output, h.size, fun k hk => h.block k (by omega) (by omega) (.inl hk)⟩

theorem Fr.below_of {E : TypeId} {B B0 b : Nat} {w w' : World} (h : Fr E B b w w') (hb : B0 ≤ b) (hB0 : B0 ≤ B) (hB : B0 ≤ w.heap.size) : Below B0 w w' :=
  ⟨h.os, h.tape, h.output, h.size, fun k hk => h.block k (by omega) (by omega) (.inl (by omega))⟩
def pcells (L : List Nat) : List Value := (pack L).map fun x => Value.int .u8 (x : Nat)
theorem pcells_length (L : List Nat) : (pcells L).length = (L.length + 7) / 8 := by simp [pcells, pack_length]
theorem pcells_get (L : List Nat) (j : Nat) (h : j < (L.length + 7) / 8) : (pcells L)[j]? = some (.int .u8 (byteOf L j : Nat)) := by simp [pcells, pack_get L j h]

def WS (w : World) (B b : Nat) (L : List Nat) : Prop :=
  ∃ v, w.heap[b]? = some (.cells #[.pointer (some ⟨b, 0, none⟩), v, .int .i64 (L.length : Nat)] 74 (0, 0)) ∧ w.ownsRow B 5 1 v ((L.length + 7) / 8) (pcells L) ∧ Bits01 L ∧ L.length ≤ 1125899906842624

theorem cells3 {w : World} {b : Nat} {x y z : Value} {t : TypeId} (h : w.heap[b]? = some (.cells #[x, y, z] t (0, 0))) :
    w.cell? ⟨b, 0, none⟩ = some x ∧ w.cell? ⟨b, 1, none⟩ = some y ∧ w.cell? ⟨b, 2, none⟩ = some z ∧ w.frozen? ⟨b, 1, none⟩ = false ∧ w.frozen? ⟨b, 2, none⟩ = false :=
  ⟨by simp [World.cell?, h], by simp [World.cell?, h], by simp [World.cell?, h], by simp [World.frozen?, h], by simp [World.frozen?, h]⟩
end Go.Proofs.YtlbadjfcffoakaaDoor
namespace Go.Proofs.YtlbadjfcffoakaaDoor
open Go.RowKit
set_option linter.unusedVariables false
set_option maxRecDepth 20000

def bitsOf (x : Nat) : Nat → List Nat
  | 0 => []
  | n + 1 => bitsOf x n ++ [x / 2 ^ n % 2]
theorem bitsOf_length (x n : Nat) : (bitsOf x n).length = n := by
  induction n with
  | zero => rfl
  | succ n ih => simp [bitsOf, ih]
theorem wrap_pow (n : Nat) (h : n ≤ 57) : wrap64 ((2 : Int) ^ n) = 2 ^ n := by
  have h1 := pow_le n 57 h
  have h2 : ((2 ^ n : Nat) : Int) = 2 ^ n := by simp
  rw [← h2]
  generalize 2 ^ n = y at h1 ⊢
  exact IntWalk.wrap64_in _ ⟨by omega, by omega⟩
theorem bit_x (x k : Nat) (hx : x < 18446744073709551616) : bits .and .u64 ((x : Int) / 2 ^ k) 1 = ((x / 2 ^ k % 2 : Nat) : Int) := by
  have e : (x : Int) / 2 ^ k = ((x / 2 ^ k : Nat) : Int) := by simp
  have hl : x / 2 ^ k ≤ x := Nat.div_le_self _ _
  have h := u64_and_nat (x / 2 ^ k) 1 (by omega) (by omega)
  rw [e, show (1 : Int) = ((1 : Nat) : Int) from rfl, h, nat_mask1]
theorem or_u8 (y c q : Nat) (hq : q < 8) (hy : y < 2 ^ q) (hc : c < 2) : bits .or .u8 (y : Int) ((c : Int) % 256 * 2 ^ q % 256) = ((y + c * 2 ^ q : Nat) : Int) := by
  have h7 := pow_le q 7 (by omega)
  have hm : c * 2 ^ q ≤ 1 * 2 ^ q := Nat.mul_le_mul_right _ (by omega)
  have e0 : (c : Int) % 256 = (c : Int) := by omega
  have e2 : (c : Int) * 2 ^ q = ((c * 2 ^ q : Nat) : Int) := by simp
  have e3 : ((c * 2 ^ q : Nat) : Int) % 256 = ((c * 2 ^ q : Nat) : Int) := by generalize c * 2 ^ q = z at *; omega
  rw [e0, e2, e3, u8_or_nat _ _ (by omega) (by omega), Nat.or_comm, nat_join q (c * 2 ^ q) y (by simp) hy]
  omega
theorem step_y (x k y q : Nat) (hx : x < 18446744073709551616) (hq : q < 8) (hy : y < 2 ^ q) :
    bits .or .u8 (y : Int) (bits .and .u64 ((x : Int) / 2 ^ k) 1 % 256 * 2 ^ q % 256) = ((y + x / 2 ^ k % 2 * 2 ^ q : Nat) : Int) := by
  rw [bit_x x k hx]
  exact or_u8 y (x / 2 ^ k % 2) q hq hy (Nat.mod_lt _ (by omega))

theorem step_0 (x k : Nat) (hx : x < 18446744073709551616) : bits .or .u8 (0 : Int) (bits .and .u64 ((x : Int) / 2 ^ k) 1 % 256) = ((x / 2 ^ k % 2 : Nat) : Int) := by
  have h := step_y x k 0 0 hx (by omega) (by simp)
  have h2 : x / 2 ^ k % 2 < 2 := Nat.mod_lt _ (by omega)
  rw [bit_x x k hx] at h ⊢
  generalize x / 2 ^ k % 2 = c at *
  have e : (c : Int) % 256 * 2 ^ 0 % 256 = (c : Int) % 256 := by omega
  rw [e] at h
  rw [show (0 : Int) = ((0 : Nat) : Int) from rfl, h]
  omega
theorem pcells_snoc {M : List Nat} (c : Nat) (h : M.length % 8 ≠ 0) : (pcells M).set (M.length / 8) (.int .u8 (byteOf M (M.length / 8) + c * 2 ^ (M.length % 8) : Nat)) = pcells (M ++ [c]) := by
  unfold pcells
  rw [pack_snoc c h, List.map_set]
theorem pcells_snoc0 {M : List Nat} (c : Nat) (h : M.length % 8 = 0) : (pcells M ++ [Value.int .u8 0]).set (M.length / 8) (.int .u8 (c : Nat)) = pcells (M ++ [c]) := by
  unfold pcells
  rw [pack_snoc0 c h, List.map_set, List.map_append]
  rfl
theorem ownsRow_block {w w' : World} {B : Nat} {E : TypeId} {size g n cap : Nat} {xs : List Value} (h : w.ownsRow B E size (.slice (some ⟨g, 0, none⟩) n cap) n xs) (e : w'.heap[g]? = w.heap[g]?) : w'.ownsRow B E size (.slice (some ⟨g, 0, none⟩) n cap) n xs := by
  refine ⟨h.1, .inr ?_⟩
  rcases h.2 with ⟨he, _⟩ | ⟨g', cap', cur, he, hB, hh, r⟩
  · cases he
  · cases he
    exact ⟨g, cap, cur, rfl, hB, e.trans hh, r⟩
theorem ownsRow_heap {w : World} {B : Nat} {E : TypeId} {size g n cap : Nat} {xs : List Value} (h : w.ownsRow B E size (.slice (some ⟨g, 0, none⟩) n cap) n xs) : B ≤ g ∧ ∃ cur, w.heap[g]? = some (.cells cur E (0, 0)) := by
  rcases h.2 with ⟨he, _⟩ | ⟨g', cap', cur, he, hB, hh, r⟩
  · cases he
  · cases he
    exact ⟨hB, cur, hh⟩
theorem step_store {w : World} {B b g cap m p : Nat} {M : List Nat} {xs : List Value} (c : Nat)
    (hbl : w.heap[b]? = some (.cells #[.pointer (some ⟨b, 0, none⟩), .slice (some ⟨g, 0, none⟩) m cap, .int .i64 (p : Nat)] 74 (0, 0)))
    (hown : w.ownsRow B 5 1 (.slice (some ⟨g, 0, none⟩) m cap) m xs) (hp : p = M.length) (hm : m = ((M ++ [c]).length + 7) / 8) (h01 : Bits01 M) (hc : c < 2) (hlen : p < 1125899906842624)
    (u : Value) (hu : xs.set (p / 8) u = pcells (M ++ [c])) (q : Value) (hq : q = .int .i64 ((p : Int) + 1)) :
    WS ((w.setCell ⟨g, p / 8, none⟩ u).setCell ⟨b, 2, none⟩ q) B b (M ++ [c]) ∧ Fr 5 B b w ((w.setCell ⟨g, p / 8, none⟩ u).setCell ⟨b, 2, none⟩ q) := by
  obtain ⟨hBg, cur, hh⟩ := ownsRow_heap hown
  have hgb : g ≠ b := by rintro rfl; rw [hbl] at hh; cases hh
  subst hq
  have hb1 : (w.setCell ⟨g, p / 8, none⟩ u).heap[b]? = w.heap[b]? := Below.heap_setCell _ _ _ _ (fun e => hgb e.symm)
  constructor
  · have hL : (((M ++ [c]).length : Nat) : Int) = (p : Int) + 1 := by simp [hp]
    refine ⟨.slice (some ⟨g, 0, none⟩) m cap, ?_, ?_, h01.snoc hc, by simp; omega⟩
    · rw [hL]; exact block_setCell (i := 2) (hb1.trans hbl)
    have h2 := (hown.stored (p / 8) u).1
    rw [hu] at h2
    rw [← hm]
    refine ownsRow_block h2 (Below.heap_setCell _ _ _ _ hgb)
  · exact (Fr.setRow hh hBg u).trans (Fr.only (Only.setCell b 2 _ _))
end Go.Proofs.YtlbadjfcffoakaaDoor
namespace Go.Proofs.YtlbadjfcffoakaaDoor
open Go.RowKit
set_option linter.unusedVariables false
set_option maxRecDepth 20000

theorem Tryd.infoU8 : (Tryd.prog.info? 5).map (fun i => (i.zero, i.size, i.bytes)) = some (some (.int .u8 0), 1, 1) := by kernel_rfl
set_option maxHeartbeats 1000000 in
theorem wbits (B b : Nat) (L : List Nat) (x n : Nat) (w : World) (hn : n ≤ 57) (hx : x < 2 ^ n) (hL : L.length + n ≤ 1125899906842624) (hw : WS w B b L) (hB : B ≤ w.heap.size) :
    Calls Tryd.prog 36 #[.pointer (some ⟨b, 0, none⟩), .int .i64 x, .int .i64 n] w fun e w' => e = .returned (.int .i64 0) ∧ WS w' B b (L ++ bitsOf x n) ∧ Fr 5 B b w w' := by
  have HW : Hid (WS w B b L) := hw
  have hx64 : x < 18446744073709551616 := by have := pow_le n 57 hn; omega
  obtain ⟨v, hb, _⟩ := hw
  obtain ⟨h0, _⟩ := cells3 hb
  clear hb
  go_enter Tryd.func36, Tryd.ntmps36
  go_wp2_with (go_at_call 38; refine (wgiven_yes _ _ h0).mono ?_; rintro e w' ⟨rfl, rfl⟩)
  · exfalso
    have hh : (((n : Int) < 0 ∨ 57 < (n : Int)) ∨ (x : Int) < 0) ∨ wrap64 (2 ^ n) ≤ (x : Int) := by assumption
    rw [wrap_pow n hn] at hh
    have : ((2 ^ n : Nat) : Int) = 2 ^ n := by simp
    omega
  go_loopw [31] (fun i wr => ∃ k : Nat, k ≤ n ∧ i = .int .i64 k ∧ WS wr B b (L ++ bitsOf x k) ∧ Fr 5 B b w' wr) (fun i _ => n - (intOf i).toNat)
  case atStart => exact ⟨0, Nat.zero_le _, rfl, by simpa [bitsOf] using HW.out, Fr.refl _ _ _ _⟩
  case round =>
    obtain ⟨k, hk, rfl, hws, hfr⟩ := hrel
    by_cases hlt : k < n
    · have HF : Hid (Fr 5 B b w' wr) := hfr
      have HWS : Hid (WS wr B b (L ++ bitsOf x k)) := hws
      obtain ⟨v, hbl, hown, h01, hlen⟩ := hws
      obtain ⟨p, hp⟩ : ∃ p, p = (L ++ bitsOf x k).length := ⟨_, rfl⟩
      rw [← hp] at hbl hown hlen
      have HP : Hid (p = (L ++ bitsOf x k).length) := hp
      obtain ⟨M, hM⟩ : ∃ M, M = L ++ bitsOf x k := ⟨_, rfl⟩
      rw [← hM] at hp hown h01
      have hpn : p < 1125899906842624 := by rw [HP.out]; simp [bitsOf_length]; omega
      clear hp hfr
      obtain ⟨_, c1, c2, f1, f2⟩ := cells3 hbl
      by_cases h8 : p % 8 = 0
      · have hHP := HP.out
        have HMM : Hid (M = L ++ bitsOf x k) := hM
        obtain ⟨m, hm⟩ : ∃ m, m = (p + 7) / 8 := ⟨_, rfl⟩
        rw [← hm] at hown
        have HM : Hid (m = (p + 7) / 8) := hm
        have hmb : m ≤ 1125899906842624 := by omega
        have hBw : B ≤ wr.heap.size := by have := HF.out.size; omega
        clear hm hHP hM
        obtain ⟨i0, hi, hz0, hz1, hz2⟩ := info_parts Tryd.infoU8
        go_wp2_with (at_builtin; refine wpList_append_lies _ rfl _ _ 23 rfl B 5 i0 (.int .u8 0) 1 1 Tryd.underlying23 hi hz0 hz1 hz2 rfl (by decide) v m (pcells M) rfl (hown.alloc _) ⟨wr.heap.size, 0, none⟩ 1 1 [.int .u8 0] rfl rfl ?c1 ?c2 (by decide) ?c3 ?c4 ?c5 (wr.heap.size + 1) ?c6 ?_)
        case c1 =>
          intro j u hj
          match j, hj with
          | 0, hj => simp at hj; subst hj; simp [Addr.add]
        case c2 => intro u hu; simp at hu; subst hu; rfl
        case c3 => unfold maxLen; omega
        case c4 => have := HM.out; omega
        case c5 => simp; omega
        case c6 => simp
        intro g cap w1 hown1 hgrow hat hgl
        have hml := HM.out
        have hML : p = M.length := by rw [HP.out, HMM.out]
        have hg1 := ownsRow_heap hown1
        have hblA : (wr.alloc (.cells #[Value.int .u8 0] 5)).heap[b]? = wr.heap[b]? := Below.heap_alloc _ _ _ (lt_of_block hbl)
        have hFr : Fr 5 B b wr w1 := (Fr.alloc _ _ _ _ _).trans (Fr.grown (hown.alloc _) hgrow)
        have hbl1 : w1.heap[b]? = some (.cells #[.pointer (some ⟨b, 0, none⟩), v, .int .i64 (p : Nat)] 74 (0, 0)) :=
          (hgrow.block b (by simp; have := lt_of_block hbl; omega) (fun e => by
            rcases hown.2 with ⟨rfl, _⟩ | ⟨g', cap', cur, rfl, _, hh, _⟩
            · simp [Value.ownBlock] at e
            · have e' : b = g' := by simpa [Value.ownBlock] using e
              subst e'; rw [hbl] at hh; cases hh)).trans (hblA.trans hbl)
        obtain ⟨_, _, c2', f1', f2'⟩ := cells3 hbl1
        have hgb : g ≠ b := by
          rintro rfl
          obtain ⟨_, cur, hh⟩ := hg1
          rw [hbl1] at hh; cases hh
        have hy : w1.cell? ⟨g, p / 8, none⟩ = some (.int .u8 0) := by
          rw [hown1.cellAt (p / 8) (by omega), List.getElem?_append_right (by rw [pcells_length, ← hML]; omega), pcells_length, ← hML, show p / 8 - (p + 7) / 8 = 0 by omega]; rfl
        have fy := hown1.frozenAt (p / 8)
        have hpm : p / 8 < m + 1 := by omega
        have HS : Hid (WS _ B b (M ++ [x / 2 ^ k % 2]) ∧ Fr 5 B b _ _) := step_store (w := w1.setCell ⟨b, 1, none⟩ (.slice (some ⟨g, 0, none⟩) (m + 1) cap)) (g := g) (cap := cap) (m := m + 1) (p := p) (M := M) (x / 2 ^ k % 2)
          (block_setCell (i := 1) hbl1) (ownsRow_block hown1 (Below.heap_setCell _ _ _ _ hgb)) hML (by simp; omega) h01 (Nat.mod_lt _ (by omega)) hpn
          (.int .u8 (bits BinOp.or IntKind.u8 0 (bits BinOp.and IntKind.u64 (↑x / 2 ^ k) 1 % 256)))
          (by rw [step_0 x k hx64, hML]; exact pcells_snoc0 (x / 2 ^ k % 2) (by rw [← hML]; exact h8)) _ rfl
        have HFr : Hid (Fr 5 B b wr w1) := hFr
        clear hat hown1 hgrow hg1 hblA hFr hbl1 hml hML hown c1 c2 f1 f2 hbl
        go_wp2
        go_region
        go_wp2
        go_roundw
        case rel =>
          exact ⟨k + 1, by omega, by go_num, by rw [bitsOf, ← List.append_assoc, ← HMM.out]; exact HS.out.1, HF.out.trans (HFr.out.trans ((Fr.only (Only.setCell b 1 _ _)).trans HS.out.2)).drew⟩
        case measure => simp [intOf]; omega
      · obtain ⟨g, cap, rfl, hBg, hgl⟩ := hown.form (by omega)
        have hHP := HP.out
        have hpm : p / 8 < (p + 7) / 8 := by omega
        obtain ⟨m, hm⟩ : ∃ m, m = (p + 7) / 8 := ⟨_, rfl⟩
        rw [← hm] at c1 hown hpm hbl
        have hy : wr.cell? ⟨g, p / 8, none⟩ = some (.int .u8 (byteOf M (p / 8) : Nat)) := by
          rw [hown.cellAt (p / 8) (by omega), pcells_get M (p / 8) (by rw [hM, ← hHP]; omega)]
        have fy := hown.frozenAt (p / 8)
        have hgb : g ≠ b := by
          rintro rfl
          rcases hown.2 with ⟨he, _⟩ | ⟨g', cap', cur, he, _, hh, _⟩
          · cases he
          · cases he; rw [hbl] at hh; cases hh
        have HM : Hid (m = (p + 7) / 8) := hm
        have HMM : Hid (M = L ++ bitsOf x k) := hM
        clear hm hHP hM
        go_wp2
        go_region
        go_wp2
        go_roundw
        case rel =>
          have hP := HP.out
          have hml := HM.out
          have hML : p = M.length := by rw [hP, HMM.out]
          have hbL : (bitsOf x k).length = k := bitsOf_length x k
          have hyq : byteOf M (p / 8) < 2 ^ (p % 8) := by rw [hML]; exact byteOf_last h01
          have S := step_store (x / 2 ^ k % 2) hbl hown hML (by simp; omega) h01 (Nat.mod_lt _ (by omega)) hpn
            (.int .u8 (bits BinOp.or IntKind.u8 (↑(byteOf M (p / 8))) (bits BinOp.and IntKind.u64 (↑x / 2 ^ k) 1 % 256 * 2 ^ (p % 8) % 256)))
            (by rw [step_y x k _ _ hx64 (by omega) hyq, hML]; exact pcells_snoc _ (by rw [← hML]; exact h8)) _ rfl
          exact ⟨k + 1, by omega, by go_num, by rw [bitsOf, ← List.append_assoc, ← HMM.out]; exact S.1, (HF.out.trans S.2).drew⟩
        case measure => simp [intOf]; omega
    · obtain rfl : k = n := by omega
      go_wp2
      go_ret
      exact ⟨rfl, hws, hfr⟩
end Go.Proofs.YtlbadjfcffoakaaDoor
namespace Go.Proofs.YtlbadjfcffoakaaDoor
open Go.RowKit
set_option linter.unusedVariables false
set_option maxRecDepth 20000

def toBA (l : List Nat) : ByteArray := ⟨(l.map UInt8.ofNat).toArray⟩
def u8cells (l : List Nat) : List Value := l.map fun x => Value.int .u8 (x : Nat)
theorem conv_row {P : Program} (w : World) (src dst e : TypeId) (B : Nat) (v : Value) (l : List Nat) (hs : P.underlying src = some (.slice e)) (he : P.underlying e = some (.int .u8)) (hd : P.underlying dst = some .string)
    (hown : w.ownsRow B e 1 v l.length (u8cells l)) (hl : ∀ x ∈ l, x < 256) : (convert src dst v).run P w = .ok (.string (toBA l)) w := by
  rcases hown.2 with ⟨rfl, h0⟩ | ⟨g, cap, cur, rfl, hB, hh, hnc, hcm, hcs, htk⟩
  · have : l = [] := List.length_eq_zero_iff.1 h0
    subst this
    rw [run_convert_bytes_string w src dst e none 0 0 hs he hd]
    simp [Conv.bytesToString]
    rfl
  · have hlen : (l.map UInt8.ofNat).length = l.length := by simp
    have := run_convert_bytes_back (P := P) w src dst e ⟨g, 0, none⟩ cap (l.map UInt8.ofNat) hs he hd (fun j hj => by
      have hj' : j < l.length := by simpa using hj
      have hx := hl l[j] (List.getElem_mem hj')
      refine hown.cells (g := g) rfl j _ ?_
      simp [u8cells, List.getElem?_eq_getElem hj']
      omega)
    rw [hlen] at this
    exact this
def textBits (s : ByteArray) : List Nat := (List.range (8 * s.size)).map (bitAt s)
theorem textBits_length (s : ByteArray) : (textBits s).length = 8 * s.size := by simp [textBits]
theorem textBits_01 (s : ByteArray) : Bits01 (textBits s) := by
  intro x hx
  simp only [textBits, List.mem_map] at hx
  obtain ⟨i, _, rfl⟩ := hx
  exact bitAt_lt s i
theorem Bits01.append {L M : List Nat} (h : Bits01 L) (k : Bits01 M) : Bits01 (L ++ M) := by
  intro x hx; rcases List.mem_append.1 hx with hx | hx
  · exact h x hx
  · exact k x hx
theorem bitsOf_01 (x n : Nat) : Bits01 (bitsOf x n) := by
  induction n with
  | zero => intro y hy; cases hy
  | succ n ih => exact ih.snoc (Nat.mod_lt _ (by omega))
theorem bitsOf_get (x n i : Nat) (h : i < n) : (bitsOf x n)[i]? = some (x / 2 ^ i % 2) := by
  induction n with
  | zero => omega
  | succ n ih =>
    unfold bitsOf
    by_cases e : i = n
    · subst e; rw [List.getElem?_append_right (by rw [bitsOf_length]; exact Nat.le_refl _), bitsOf_length]; simp
    · rw [List.getElem?_append_left (by rw [bitsOf_length]; omega)]; exact ih (by omega)
theorem bsum_bits (y n : Nat) (hy : y < 2 ^ n) : bsum (fun i => y / 2 ^ i % 2) n = y := by
  have h : ∀ n, bsum (fun i => y / 2 ^ i % 2) n = y % 2 ^ n := by
    intro n
    induction n with
    | zero => simp [bsum, Nat.mod_one]
    | succ n ih => simp only [bsum]; rw [ih, Nat.mod_pow_succ, Nat.mul_comm (2 ^ n)]
  rw [h, Nat.mod_eq_of_lt hy]
theorem byteOf_text (L : List Nat) (s : ByteArray) (j : Nat) (h8 : L.length % 8 = 0) (hj : j < s.size) : byteOf (L ++ textBits s) (L.length / 8 + j) = (s.data.toList.getD j 0).toNat := by
  have e : byteOf (L ++ textBits s) (L.length / 8 + j) = bsum (fun i => (s.data.toList.getD j 0).toNat / 2 ^ i % 2) 8 := by
    refine bsum_congr (fun i hi => ?_)
    rw [List.getD_eq_getElem?_getD, List.getElem?_append_right (by omega), show 8 * (L.length / 8 + j) + i - L.length = 8 * j + i by omega]
    simp only [textBits]
    rw [List.getElem?_map, List.getElem?_range (by omega)]
    simp only [Option.map_some, Option.getD_some, bitAt]
    rw [show (8 * j + i) / 8 = j by omega, show (8 * j + i) % 8 = i by omega]
  rw [e]
  exact bsum_bits _ 8 (UInt8.toNat_lt _)
theorem byteOf_left (L M : List Nat) (j : Nat) (h : 8 * j + 8 ≤ L.length) : byteOf (L ++ M) j = byteOf L j := by
  refine bsum_congr (fun i hi => ?_)
  rw [List.getD_eq_getElem?_getD, List.getD_eq_getElem?_getD, List.getElem?_append_left (by omega)]
theorem pack_text (L : List Nat) (s : ByteArray) (h8 : L.length % 8 = 0) : pack (L ++ textBits s) = pack L ++ s.data.toList.map UInt8.toNat := by
  have hl := textBits_length s
  have hs : s.data.toList.length = s.size := by simp
  refine List.ext_getElem? (fun j => ?_)
  by_cases hj : j < L.length / 8
  · rw [pack_get _ _ (by rw [List.length_append]; omega), byteOf_left _ _ _ (by omega), List.getElem?_append_left (by rw [pack_length]; omega), pack_get _ _ (by omega)]
  · by_cases hj2 : j < L.length / 8 + s.size
    · rw [pack_get _ _ (by rw [List.length_append]; omega), List.getElem?_append_right (by rw [pack_length]; omega), pack_length, show j - (L.length + 7) / 8 = j - L.length / 8 by omega]
      have := byteOf_text L s (j - L.length / 8) h8 (by omega)
      rw [show L.length / 8 + (j - L.length / 8) = j by omega] at this
      rw [this, List.getElem?_map, List.getD_eq_getElem?_getD, List.getElem?_eq_getElem (by omega)]
      rfl
    · rw [List.getElem?_eq_none (by rw [pack_length, List.length_append]; omega), List.getElem?_eq_none (by rw [List.length_append, pack_length, List.length_map]; omega)]
def padOf (n : Nat) : Nat := (n + 7) / 8 * 8 - n
def padded (L : List Nat) : List Nat := L ++ List.replicate (padOf L.length) 0
theorem padded_length (L : List Nat) : (padded L).length = (L.length + 7) / 8 * 8 := by simp [padded, padOf]; omega
theorem padded_01 {L : List Nat} (h : Bits01 L) : Bits01 (padded L) := h.append (fun x hx => by have := (List.mem_replicate.1 hx).2; omega)
theorem pack_padded (L : List Nat) : pack (padded L) = pack L := by
  refine List.ext_getElem? (fun j => ?_)
  have hl := padded_length L
  by_cases hj : j < (L.length + 7) / 8
  · rw [pack_get _ _ (by rw [hl]; omega), pack_get _ _ hj]
    refine congrArg some (bsum_congr (fun i hi => ?_))
    rw [List.getD_eq_getElem?_getD, List.getD_eq_getElem?_getD]
    by_cases hi2 : 8 * j + i < L.length
    · rw [padded, List.getElem?_append_left hi2]
    · rw [padded, List.getElem?_append_right (by omega), List.getElem?_eq_none (l := L) (by omega), List.getElem?_replicate]
      split <;> rfl
  · rw [List.getElem?_eq_none (by rw [pack_length, hl]; omega), List.getElem?_eq_none (by rw [pack_length]; omega)]
end Go.Proofs.YtlbadjfcffoakaaDoor
namespace Go.Proofs.YtlbadjfcffoakaaDoor
open Go.RowKit
set_option linter.unusedVariables false
set_option maxRecDepth 20000

theorem row_kept {w w' : World} {B b size n : Nat} {E T : TypeId} {v : Value} {xs : List Value} {cs : Array Value} {mk : Nat × Nat} (hbl : w.heap[b]? = some (.cells cs T mk)) (hT : T ≠ E) (hown : w.ownsRow B E size v n xs) (hg : w.grownBy w' v.ownBlock) : w'.heap[b]? = w.heap[b]? :=
  hg.block b (lt_of_block hbl) (fun e => by
    rcases hown.2 with ⟨rfl, _⟩ | ⟨g', cap', cur, rfl, _, hh, _⟩
    · simp [Value.ownBlock] at e
    · have e' : b = g' := by simpa [Value.ownBlock] using e
      subst e'; rw [hbl] at hh; cases hh; exact hT rfl)
theorem WS.self {w : World} {B b : Nat} {L : List Nat} (h : WS w B b L) : w.cell? ⟨b, 0, none⟩ = some (.pointer (some ⟨b, 0, none⟩)) := by
  obtain ⟨v, hb, _⟩ := h; exact (cells3 hb).1
theorem WS.place {w : World} {B b : Nat} {L : List Nat} (h : WS w B b L) : w.cell? ⟨b, 2, none⟩ = some (.int .i64 (L.length : Nat)) := by
  obtain ⟨v, hb, _⟩ := h; exact (cells3 hb).2.2.1
theorem WS.lt {w : World} {B b : Nat} {L : List Nat} (h : WS w B b L) : b < w.heap.size := by
  obtain ⟨v, hb, _⟩ := h; exact lt_of_block hb
theorem WS.kept {w w' : World} {B b : Nat} {L : List Nat} (h : WS w B b L) (hb : w'.heap[b]? = w.heap[b]?) (hrow : ∀ (g : Nat) (cur : Array Value), w.heap[g]? = some (.cells cur 5 (0, 0)) → w'.heap[g]? = w.heap[g]?) : WS w' B b L := by
  obtain ⟨v, h1, h2, h3, h4⟩ := h
  refine ⟨v, hb.trans h1, ⟨h2.1, ?_⟩, h3, h4⟩
  rcases h2.2 with hn | ⟨g, cap, cur, hv, hg, hh, r⟩
  · exact .inl hn
  · exact .inr ⟨g, cap, cur, hv, hg, (hrow g cur hh).trans hh, r⟩
theorem WS.below {w w' : World} {B b : Nat} {L : List Nat} (h : WS w B b L) (hb : Below w.heap.size w w') : WS w' B b L :=
  h.kept (hb.block b h.lt) (fun g cur hg => hb.block g (lt_of_block hg))
theorem WS.drewN {w : World} {B b : Nat} {L : List Nat} (h : WS w B b L) (n : Nat) : WS (w.drewN n) B b L := h
theorem WS.other {w w' : World} {B b B2 b2 : Nat} {L M : List Nat} (h : WS w B b L) (h2 : WS w B2 b2 M) (hne : b ≠ b2) (hf : Fr 5 w.heap.size b2 w w') : WS w' B b L := by
  obtain ⟨v2, hb2, _⟩ := h2
  refine h.kept (hf.block b h.lt hne (.inl h.lt)) (fun g cur hg => hf.block g (lt_of_block hg) ?_ (.inl (lt_of_block hg)))
  rintro rfl
  rw [hb2] at hg; cases hg
theorem WS.new (w : World) (B : Nat) : WS (w.alloc (.cells #[.pointer (some ⟨w.heap.size, 0, none⟩), .slice none 0 0, .int .i64 0] 74)) B w.heap.size [] :=
  ⟨.slice none 0 0, heap_alloc_new _ _, World.ownsRow_nil _ _ _ _, (fun x hx => by cases hx), by simp⟩
theorem wbits_arg (B b : Nat) (L : List Nat) (x n : Int) (w : World) (h : n < 0 ∨ 57 < n ∨ x < 0 ∨ ∃ m : Nat, n = m ∧ m ≤ 57 ∧ (2 : Int) ^ m ≤ x) (hw : WS w B b L) :
    Calls Tryd.prog 36 #[.pointer (some ⟨b, 0, none⟩), .int .i64 x, .int .i64 n] w fun e w' => e = .returned (.int .i64 1) ∧ w' = w := by
  have h0 := hw.self
  clear hw
  by_cases h1 : n < 0
  · clear h
    go_enter Tryd.func36, Tryd.ntmps36
    go_wp2_with (go_at_call 38; refine (wgiven_yes _ _ h0).mono ?_; rintro e w' ⟨rfl, rfl⟩)
    go_ret
    exact ⟨rfl, rfl⟩
  · by_cases h2 : 57 < n
    · clear h
      go_enter Tryd.func36, Tryd.ntmps36
      go_wp2_with (go_at_call 38; refine (wgiven_yes _ _ h0).mono ?_; rintro e w' ⟨rfl, rfl⟩)
      go_ret
      exact ⟨rfl, rfl⟩
    · by_cases h3 : x < 0
      · clear h
        go_enter Tryd.func36, Tryd.ntmps36
        go_wp2_with (go_at_call 38; refine (wgiven_yes _ _ h0).mono ?_; rintro e w' ⟨rfl, rfl⟩)
        go_ret
        exact ⟨rfl, rfl⟩
      · rcases h with h | h | h | ⟨m, rfl, hm, hx⟩
        · omega
        · omega
        · omega
        have HX : Hid ((2 : Int) ^ m ≤ x) := hx
        clear hx
        go_enter Tryd.func36, Tryd.ntmps36
        go_wp2_with (go_at_call 38; refine (wgiven_yes _ _ h0).mono ?_; rintro e w' ⟨rfl, rfl⟩)
        · go_ret
          exact ⟨rfl, rfl⟩
        · exfalso
          have hh : ((0 ≤ (m : Int) ∧ (m : Int) ≤ 57) ∧ 0 ≤ x) ∧ x < wrap64 (2 ^ m) := by assumption
          have := HX.out
          rw [wrap_pow m hm] at hh
          omega
theorem walign (B b : Nat) (L : List Nat) (w : World) (hL : L.length ≤ 1125899906842600) (hw : WS w B b L) :
    Calls Tryd.prog 35 #[.pointer (some ⟨b, 0, none⟩)] w fun e w' => e = .returned (.int .i64 0) ∧ WS w' B b (padded L) ∧ Only b w w' := by
  have HW : Hid (WS w B b L) := hw
  have h0 := hw.self
  have h2 := hw.place
  obtain ⟨v, hbl, _⟩ := hw
  obtain ⟨_, _, _, _, f2⟩ := cells3 hbl
  clear hbl
  go_enter Tryd.func35, Tryd.ntmps35
  go_wp2_with (first | (go_at_call 38; refine (wgiven_yes _ _ h0).mono ?_; rintro e w' ⟨rfl, rfl⟩) | (go_at_call 55; refine (byteEnd _ _ (by omega) (by omega)).mono ?_; rintro e w' ⟨rfl, rfl⟩))
  go_ret
  refine ⟨rfl, ?_, Only.setCell b 2 _ _⟩
  obtain ⟨v, hbl, hown, h01, _⟩ := HW.out
  have hl := padded_length L
  refine ⟨v, ?_, ?_, padded_01 h01, by omega⟩
  · rw [hl]; exact block_setCell (i := 2) hbl
  · have e : ((padded L).length + 7) / 8 = (L.length + 7) / 8 := by omega
    have e2 : pcells (padded L) = pcells L := by unfold pcells; rw [pack_padded]
    rw [e, e2]
    rcases hown.2 with ⟨rfl, h0⟩ | ⟨g, cap, cur, rfl, hB, hh, r⟩
    · exact ⟨hown.1, .inl ⟨rfl, h0⟩⟩
    · refine ownsRow_block hown (Below.heap_setCell _ _ _ _ (fun e => ?_))
      have e' : g = b := e
      subst e'; rw [hbl] at hh; cases hh
theorem wdone (B b : Nat) (L : List Nat) (w : World) (hw : WS w B b L) :
    Calls Tryd.prog 22 #[.pointer (some ⟨b, 0, none⟩)] w fun e w' => e = .returned (.string (toBA (pack L))) ∧ w' = w := by
  have h0 := hw.self
  obtain ⟨v, hbl, hown, h01, _⟩ := hw
  obtain ⟨_, h1, _, _, _⟩ := cells3 hbl
  have hc : (convert 23 9 v).run Tryd.prog w = .ok (.string (toBA (pack L))) w := by
    refine conv_row w _ _ 5 B v (pack L) Tryd.underlying23 Tryd.underlying5 Tryd.underlying9 (by rw [pack_length]; exact hown) ?_
    intro x hx
    obtain ⟨j, _, rfl⟩ := List.mem_map.1 hx
    exact byteOf_lt h01 j
  clear hbl hown
  go_enter Tryd.func22, Tryd.ntmps22
  go_wp2_with (go_at_call 38; refine (wgiven_yes _ _ h0).mono ?_; rintro e w' ⟨rfl, rfl⟩)
  go_ret
  exact ⟨rfl, rfl⟩
theorem wbytes_bits (B b : Nat) (L : List Nat) (s : ByteArray) (w : World) (h8 : L.length % 8 ≠ 0) (hw : WS w B b L) :
    Calls Tryd.prog 37 #[.pointer (some ⟨b, 0, none⟩), .string s] w fun e w' => e = .returned (.int .i64 10) ∧ w' = w := by
  have h0 := hw.self
  have h2 := hw.place
  clear hw
  go_enter Tryd.func37, Tryd.ntmps37
  go_wp2_with (go_at_call 38; refine (wgiven_yes _ _ h0).mono ?_; rintro e w' ⟨rfl, rfl⟩)
  go_ret
  exact ⟨rfl, rfl⟩
set_option maxHeartbeats 400000 in
theorem wbytes (B b : Nat) (L : List Nat) (s : ByteArray) (w : World) (h8 : L.length % 8 = 0) (hL : L.length + 8 * s.size ≤ 1125899906842624) (hw : WS w B b L) (hB : B ≤ w.heap.size) :
    Calls Tryd.prog 37 #[.pointer (some ⟨b, 0, none⟩), .string s] w fun e w' => e = .returned (.int .i64 0) ∧ WS w' B b (L ++ textBits s) ∧ Fr 5 B b w w' := by
  have h0 := hw.self
  obtain ⟨v, hbl, hown, h01, hlen⟩ := hw
  obtain ⟨p, hp⟩ : ∃ p, p = L.length := ⟨_, rfl⟩
  rw [← hp] at hbl hown hlen h8 hL
  have HP : Hid (p = L.length) := hp
  obtain ⟨m, hm⟩ : ∃ m, m = (p + 7) / 8 := ⟨_, rfl⟩
  rw [← hm] at hown
  have hmb : m + s.size ≤ 140737488355328 := by omega
  have HM : Hid (m = (p + 7) / 8) := hm
  obtain ⟨_, c1, c2, f1, f2⟩ := cells3 hbl
  have hBw : B ≤ w.heap.size := hB
  clear hp hm
  obtain ⟨i0, hi, hz0, hz1, hz2⟩ := info_parts Tryd.infoU8
  go_enter Tryd.func37, Tryd.ntmps37
  go_wp2_with (first | (go_at_call 38; refine (wgiven_yes _ _ h0).mono ?_; rintro e w' ⟨rfl, rfl⟩) | (at_builtin; refine Lib.wpList_append_own_string _ rfl _ _ 23 9 rfl B 5 i0 Tryd.underlying23 Tryd.underlying9 hi hz0 hz1 hz2 v m (pcells L) rfl hown s rfl ?c1 ?c2 hBw ?_))
  case c1 => unfold maxLen; omega
  case c2 => exact hmb
  intro v1 w1 hown1 hgrow _
  obtain ⟨ao, ln, cp, hv1⟩ : ∃ ao ln cp, v1 = .slice ao ln cp := by
    rcases hown1.2 with ⟨rfl, _⟩ | ⟨g, cap, cur, rfl, _⟩
    · exact ⟨_, _, _, rfl⟩
    · exact ⟨_, _, _, rfl⟩
  rw [hv1] at hown1 ⊢
  have hbl1 := (row_kept hbl (by decide) hown hgrow).trans hbl
  have HE : Hid _ := (⟨hbl1, hown1, Fr.grown (b := b) hown hgrow, h01⟩ : _ ∧ _ ∧ _ ∧ _)
  obtain ⟨_, _, c2', f1', f2'⟩ := cells3 hbl1
  clear hbl1 hown1 hgrow hown hbl h01 hv1 c1 c2 f1 f2
  go_wp2
  go_ret
  obtain ⟨hbl1, hown1, hfr, h01⟩ := HE.out
  have hP := HP.out
  have hMm := HM.out
  have hts := textBits_length s
  have hblF := block_setCell (i := 2) (u := .int .i64 ((p : Int) + (s.size : Int) * 8)) (block_setCell (i := 1) (u := .slice ao ln cp) hbl1)
  refine ⟨rfl, ⟨.slice ao ln cp, ?_, ?_, h01.append (textBits_01 s), by rw [List.length_append]; omega⟩, hfr.trans ((Fr.only (Only.setCell b 1 _ _)).trans (Fr.only (Only.setCell b 2 _ _)))⟩
  · have e : (((L ++ textBits s).length : Nat) : Int) = (p : Int) + (s.size : Int) * 8 := by rw [List.length_append, hts, ← hP]; omega
    rw [e]; exact hblF
  · have e : ((L ++ textBits s).length + 7) / 8 = m + s.size := by rw [List.length_append]; omega
    have e2 : pcells (L ++ textBits s) = pcells L ++ Lib.strCells s := by
      unfold pcells
      rw [pack_text L s (by rw [← hP]; exact h8), List.map_append, List.map_map]
      rfl
    rw [e, e2]
    rcases hown1.2 with ⟨he, h0⟩ | ⟨g, cap, cur, he, hB, hh, r⟩
    · exact ⟨hown1.1, .inl ⟨he, h0⟩⟩
    · have hgb : g ≠ b := by rintro rfl; rw [hbl1] at hh; cases hh
      obtain ⟨rfl, rfl, rfl⟩ := Value.slice.inj he
      exact ownsRow_block (ownsRow_block hown1 (Below.heap_setCell _ _ _ _ hgb)) (Below.heap_setCell _ _ _ _ hgb)
end Go.Proofs.YtlbadjfcffoakaaDoor
namespace Go.Proofs.YtlbadjfcffoakaaDoor
open Go.RowKit
set_option linter.unusedVariables false
set_option maxRecDepth 20000

def Nobody (w : World) (p : Option Addr) : Prop := p = none ∨ ∃ b, p = some ⟨b, 0, none⟩ ∧ w.cell? ⟨b, 0, none⟩ = some (.pointer none)
theorem no_wBits (p : Option Addr) (x n : Int) (w : World) (h : Nobody w p) :
    Calls Tryd.prog 36 #[.pointer p, .int .i64 x, .int .i64 n] w fun e w' => e = .returned (.int .i64 1) ∧ w' = w := by
  rcases h with rfl | ⟨b, rfl, h0⟩
  · go_enter Tryd.func36, Tryd.ntmps36
    go_wp2_with (go_at_call 38; refine (wgiven_nil _).mono ?_; rintro e w' ⟨rfl, rfl⟩)
    go_ret
    exact ⟨rfl, rfl⟩
  · go_enter Tryd.func36, Tryd.ntmps36
    go_wp2_with (go_at_call 38; refine (wgiven_zero _ _ h0).mono ?_; rintro e w' ⟨rfl, rfl⟩)
    go_ret
    exact ⟨rfl, rfl⟩
end Go.Proofs.YtlbadjfcffoakaaDoor
namespace Go.Proofs.YtlbadjfcffoakaaDoor
open Go.RowKit
set_option linter.unusedVariables false
set_option maxRecDepth 20000

theorem i64_mask (k : Nat) (hk : k ≤ 62) (n : Int) : bits .and .i64 n ((2 ^ k - 1 : Nat) : Int) = n % ((2 ^ k : Nat) : Int) := by
  have hp := pow_le k 62 hk
  have hpos : 0 < 2 ^ k := Nat.pos_of_ne_zero (by simp)
  have hm : (BitVec.ofInt 64 ((2 ^ k - 1 : Nat) : Int)).toNat = 2 ^ k - 1 := ofInt_u64 _ (by omega)
  have key : (BitVec.ofInt 64 n &&& BitVec.ofInt 64 ((2 ^ k - 1 : Nat) : Int)).toNat = (n % ((2 ^ 64 : Nat) : Int)).toNat % 2 ^ k := by
    rw [BitVec.toNat_and, BitVec.toNat_ofInt, hm, Nat.and_two_pow_sub_one_eq_mod]
  show IntKind.i64.wrap ((BitVec.ofInt 64 n &&& BitVec.ofInt 64 ((2 ^ k - 1 : Nat) : Int)).toNat : Nat) = _
  rw [key, IntKind.wrap_i64]
  have hd : (n % ((2 ^ 64 : Nat) : Int)) % ((2 ^ k : Nat) : Int) = n % ((2 ^ k : Nat) : Int) := by
    apply Int.emod_emod_of_dvd
    exact ⟨((2 ^ (64 - k) : Nat) : Int), by rw [← Int.natCast_mul, ← Nat.pow_add, show k + (64 - k) = 64 by omega]⟩
  have h0 : 0 ≤ n % ((2 ^ 64 : Nat) : Int) := Int.emod_nonneg _ (by omega)
  obtain ⟨y, hy⟩ := Int.eq_ofNat_of_zero_le h0
  rw [hy] at hd ⊢
  rw [← hd]
  have e : ((y : Int).toNat % 2 ^ k : Nat) = y % 2 ^ k := by simp
  have hlt : y % 2 ^ k < 2 ^ k := Nat.mod_lt _ hpos
  rw [e]
  have e2 : (y : Int) % ((2 ^ k : Nat) : Int) = ((y % 2 ^ k : Nat) : Int) := by simp
  rw [e2]
  omega
theorem and63 (n : Int) : ∃ K : Nat, K < 64 ∧ bits .and .i64 n 63 = (K : Int) := by
  have h := i64_mask 6 (by omega) n
  have h0 : 0 ≤ n % 64 := Int.emod_nonneg _ (by omega)
  have h1 : n % 64 < 64 := Int.emod_lt_of_pos _ (by omega)
  exact ⟨(n % 64).toNat, by omega, by rw [show ((63 : Int)) = ((2 ^ 6 - 1 : Nat) : Int) from rfl, h]; show n % 64 = _; omega⟩
theorem and255i (n : Int) : ∃ K : Nat, K < 256 ∧ bits .and .i64 n 255 = (K : Int) := by
  have h := i64_mask 8 (by omega) n
  have h0 : 0 ≤ n % 256 := Int.emod_nonneg _ (by omega)
  have h1 : n % 256 < 256 := Int.emod_lt_of_pos _ (by omega)
  exact ⟨(n % 256).toNat, by omega, by rw [show ((255 : Int)) = ((2 ^ 8 - 1 : Nat) : Int) from rfl, h]; show n % 256 = _; omega⟩
theorem and31 (n : Int) : ∃ K : Nat, K < 32 ∧ bits .and .i64 n 31 = (K : Int) := by
  have h := i64_mask 5 (by omega) n
  have h0 : 0 ≤ n % 32 := Int.emod_nonneg _ (by omega)
  have h1 : n % 32 < 32 := Int.emod_lt_of_pos _ (by omega)
  exact ⟨(n % 32).toNat, by omega, by rw [show ((31 : Int)) = ((2 ^ 5 - 1 : Nat) : Int) from rfl, h]; show n % 32 = _; omega⟩
theorem low_mask (x a : Nat) (ha : a ≤ 57) : bits .and .i64 (x : Int) (wrap64 (wrap64 (2 ^ a) - 1)) = ((x % 2 ^ a : Nat) : Int) := by
  have hp := pow_le a 57 ha
  have hpos : 0 < 2 ^ a := Nat.pos_of_ne_zero (by simp)
  have e : ((2 ^ a : Nat) : Int) = 2 ^ a := by simp
  rw [wrap_pow a ha, ← e, IntWalk.wrap64_in _ ⟨by omega, by omega⟩]
  have e2 : ((2 ^ a : Nat) : Int) - 1 = ((2 ^ a - 1 : Nat) : Int) := by omega
  rw [e2, i64_mask a (by omega)]
  simp
theorem bsum_digit {f : Nat → Nat} {n r : Nat} (h : ∀ i, i < n → f i < 2) (hr : r < n) : bsum f n / 2 ^ r % 2 = f r := by
  induction n with
  | zero => omega
  | succ n ih =>
    simp only [bsum]
    by_cases e : r = n
    · subst e
      have hl := bsum_lt (f := f) (n := r) (fun i hi => h i (by omega))
      have hf := h r (by omega)
      rw [Nat.add_mul_div_right _ _ (Nat.pos_of_ne_zero (by simp)), Nat.div_eq_of_lt hl]
      omega
    · have e2 : f n * 2 ^ n = (f n * 2 ^ (n - r - 1) * 2) * 2 ^ r := by
        rw [Nat.mul_assoc, Nat.mul_assoc, ← Nat.pow_succ', ← Nat.pow_add, show n - r - 1 + r.succ = n by omega]
      rw [e2, Nat.add_mul_div_right _ _ (Nat.pos_of_ne_zero (by simp))]
      have := ih (fun i hi => h i (by omega)) (by omega)
      omega
theorem bitAt_pack {L : List Nat} (h : Bits01 L) (i : Nat) (hi : i < 8 * ((L.length + 7) / 8)) : bitAt (toBA (pack L)) i = L.getD i 0 := by
  unfold bitAt
  have e : (toBA (pack L)).data.toList.getD (i / 8) 0 = UInt8.ofNat (byteOf L (i / 8)) := by
    show ((pack L).map UInt8.ofNat).getD (i / 8) 0 = _
    rw [List.getD_eq_getElem?_getD, List.getElem?_map, pack_get L (i / 8) (by omega)]; rfl
  have hb := byteOf_lt h (i / 8)
  rw [e, UInt8.toNat_ofNat', Nat.mod_eq_of_lt hb]
  unfold byteOf
  rw [bsum_digit (fun j _ => h.getD _) (by omega), show 8 * (i / 8) + i % 8 = i by omega]
theorem num_pack {L : List Nat} (h : Bits01 L) (p n : Nat) (hp : p + n ≤ L.length) : num (toBA (pack L)) p n = bsum (fun i => L.getD (p + i) 0) n := by
  rw [num_bsum]
  exact bsum_congr (fun i hi => bitAt_pack h (p + i) (by omega))
theorem bitsOf_getD (x k i : Nat) (h : i < k) : (bitsOf x k).getD i 0 = x / 2 ^ i % 2 := by
  rw [List.getD_eq_getElem?_getD, bitsOf_get x k i h]; rfl
theorem num_bitsOf (x k p n : Nat) (hp : p + n ≤ k) : num (toBA (pack (bitsOf x k))) p n = x / 2 ^ p % 2 ^ n := by
  rw [num_pack (bitsOf_01 x k) p n (by rw [bitsOf_length]; exact hp)]
  have e : bsum (fun i => (bitsOf x k).getD (p + i) 0) n = bsum (fun i => x / 2 ^ p % 2 ^ n / 2 ^ i % 2) n := by
    refine bsum_congr (fun i hi => ?_)
    rw [bitsOf_getD x k (p + i) (by omega), Nat.pow_add, ← Nat.div_div_eq_div_mul]
    have hd : 2 ^ n = 2 ^ i * 2 ^ (n - i) := by rw [← Nat.pow_add]; congr 1; omega
    rw [hd, Nat.mod_mul_right_div_self, show n - i = (n - i - 1) + 1 by omega, Nat.pow_succ, Nat.mod_mul_left_mod]
  rw [e, bsum_bits _ n (Nat.mod_lt _ (Nat.pos_of_ne_zero (by simp)))]
theorem bitsOf_split (x a k : Nat) (h : a ≤ k) : bitsOf (x % 2 ^ a) a ++ bitsOf (x / 2 ^ a) (k - a) = bitsOf x k := by
  refine List.ext_getElem? (fun i => ?_)
  by_cases hi : i < k
  · rw [bitsOf_get x k i hi]
    by_cases h1 : i < a
    · rw [List.getElem?_append_left (by rw [bitsOf_length]; exact h1), bitsOf_get _ _ _ h1]
      have hd : 2 ^ a = 2 ^ i * 2 ^ (a - i) := by rw [← Nat.pow_add]; congr 1; omega
      rw [hd, Nat.mod_mul_right_div_self, show a - i = (a - i - 1) + 1 by omega, Nat.pow_succ, Nat.mod_mul_left_mod]
    · rw [List.getElem?_append_right (by rw [bitsOf_length]; omega), bitsOf_length, bitsOf_get _ _ _ (by omega), Nat.div_div_eq_div_mul, ← Nat.pow_add, show a + (i - a) = i by omega]
  · rw [List.getElem?_eq_none (by rw [List.length_append, bitsOf_length, bitsOf_length]; omega), List.getElem?_eq_none (by rw [bitsOf_length]; omega)]
end Go.Proofs.YtlbadjfcffoakaaDoor
namespace Go.Proofs.YtlbadjfcffoakaaDoor
open Go.RowKit
set_option linter.unusedVariables false
set_option maxRecDepth 20000

theorem refBit_eq (y m : Nat) (hy : y < 256) : bits .and .i64 (wrap64 ((y : Int) / 2 ^ m)) 1 = ((y / 2 ^ m % 2 : Nat) : Int) := by
  have e : (y : Int) / 2 ^ m = ((y / 2 ^ m : Nat) : Int) := by simp
  have hl : y / 2 ^ m ≤ y := Nat.div_le_self _ _
  rw [e]
  generalize y / 2 ^ m = z at *
  rw [IntWalk.wrap64_in _ ⟨by omega, by omega⟩]
  have h := i64_mask 1 (by omega) (z : Int)
  rw [show ((2 ^ 1 - 1 : Nat) : Int) = 1 from rfl] at h
  rw [h]
  simp
theorem refBit (s : ByteArray) (i : Nat) (w : World) (hi : i < 8 * s.size) (hs : s.size ≤ 281474976710656) :
    Calls Tryd.prog 50 #[.string s, .int .i64 i] w fun e w' => e = .returned (.int .i64 (bitAt s i : Nat)) ∧ w' = w := by
  have hix : i / 8 < s.size := by omega
  go_enter Tryd.func50, Tryd.ntmps50
  go_wp2
  go_ret
  refine ⟨ret_int ?_, rfl⟩
  rw [bitAt_eq s i hix]
  exact refBit_eq _ _ (UInt8.toNat_lt _)
end Go.Proofs.YtlbadjfcffoakaaDoor
