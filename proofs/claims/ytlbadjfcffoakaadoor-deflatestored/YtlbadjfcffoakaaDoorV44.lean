/- The document's reader: told codes. -/
import Derived.Test.YtlbadjfcffoakaaDoorV29
import Derived.Test.YtlbadjfcffoakaaDoorV43
import Derived.Deep.DeepCutAuto
import Derived.Deep.CutBlock
namespace Go.Proofs.YtlbadjfcffoakaaDoor
open Go.RowKit
set_option linter.unusedVariables false
set_option maxRecDepth 20000

variable {w w' : World} {K : Nat → Prop} {r : Nat} {s : ByteArray} {p : Nat} {l : List Nat} {most e : Nat} {v : Value}
theorem RR.add (h : RR w K r s p l most e v) {g : Nat} (hlt : g < w.heap.size) (hr : g ≠ r) (ho : ∀ q, v.ownBlock = some q → q ≠ g) : RR w (fun k => K k ∨ k = g) r s p l most e v :=
  ⟨h.blk, h.own, h.le, h.small, fun k hk => hk.elim (h.kb k) (fun e => e ▸ hlt), fun hk => hk.elim h.kr (fun e => hr e.symm), fun q hq hk => hk.elim (h.ko q hq) (fun e => ho q hq e)⟩
theorem RR.own_blk (h : RR w K r s p l most e v) {q : Nat} (hq : v.ownBlock = some q) : ∃ cur mk, w.heap[q]? = some (.cells cur 5 mk) := by
  rcases h.own.2 with ⟨e1, _⟩ | ⟨g, cap, cur, e1, e2, e3, e4⟩
  · rw [e1] at hq; simp [Value.ownBlock] at hq
  · rw [e1] at hq
    have e5 : g = q := by simpa [Value.ownBlock] using hq
    rw [e5] at e3
    exact ⟨_, _, e3⟩
theorem RR.new (h : RR w K r s p l most e v) (o : Obj) : RR (w.alloc o) (fun k => K k ∨ k = w.heap.size) r s p l most e v :=
  (h.alloc o).add (by simp) (Nat.ne_of_gt (lt_of_block h.blk)) (fun q hq => by obtain ⟨_, _, e⟩ := h.own_blk hq; exact Nat.ne_of_lt (lt_of_block e))
theorem RR.addInt (h : RR w K r s p l most e v) {g : Nat} {cs : Array Value} {mk : Nat × Nat} (hg : w.heap[g]? = some (.cells cs 3 mk)) : RR w (fun k => K k ∨ k = g) r s p l most e v :=
  h.add (lt_of_block hg) (fun e => by have := h.blk; rw [← e, hg] at this; simp at this) (fun q hq e => by obtain ⟨_, _, e2⟩ := h.own_blk hq; rw [e, hg] at e2; simp at e2)
theorem RR.held {K3 : Nat → Prop} (h : RR w K r s p l most e v) (hf : UF K3 w w') (h1 : K3 r) (h2 : ∀ q, v.ownBlock = some q → K3 q) : RR w' K r s p l most e v := by
  refine ⟨by rw [hf.block r h1]; exact h.blk, ⟨h.own.1, ?_⟩, h.le, h.small, fun k hk => Nat.lt_of_lt_of_le (h.kb k hk) hf.size, h.kr, h.ko⟩
  rcases h.own.2 with e | ⟨g, cap, cur, e1, e2, e3, e4⟩
  · exact .inl e
  · exact .inr ⟨g, cap, cur, e1, e2, by rw [hf.block g (h2 g (by rw [e1]; rfl))]; exact e3, e4⟩
theorem RR.lessK {K' : Nat → Prop} (h : RR w K' r s p l most e v) (hk : ∀ k, K k → K' k) : RR w K r s p l most e v := ⟨h.blk, h.own, h.le, h.small, fun k a => h.kb k (hk k a), fun a => h.kr (hk _ a), fun g a b => h.ko g a (hk g b)⟩
theorem ordL_arr (i : Nat) (hi : i < 19) : (#[Value.int .i64 16, Value.int .i64 17, Value.int .i64 18, Value.int .i64 0, Value.int .i64 8, Value.int .i64 7, Value.int .i64 9, Value.int .i64 6, Value.int .i64 10, Value.int .i64 5, Value.int .i64 11, Value.int .i64 4, Value.int .i64 12, Value.int .i64 3, Value.int .i64 13, Value.int .i64 2, Value.int .i64 14, Value.int .i64 1, Value.int .i64 15] : Array Value)[i]? = some (.int .i64 (ordL.getD i 0 : Nat)) := by
  iterate 19 (rcases i with _ | i; · rfl)
  omega
theorem RR.beside (h : RR w K r s p l most e v) {B : Nat} {cs : Array Value} {mk : Nat × Nat} (hg : w.heap[B]? = some (.cells cs 3 mk)) (ho : Only B w w') : RR w' K r s p l most e v := by
  have h2 := h.addInt hg
  have hB : ¬ (B = r ∨ v.ownBlock = some B) := by
    rintro (e | e)
    · exact h2.kr (.inr e.symm)
    · exact h2.ko B e (.inr rfl)
  have hf : UF (fun k => k = r ∨ v.ownBlock = some k) w w' := UF.only ho (fun k hk => by
    rcases hk with rfl | hk
    · exact lt_of_block h.blk
    · obtain ⟨_, _, e⟩ := h.own_blk hk; exact lt_of_block e) hB
  exact h.held hf (.inl rfl) (fun q hq => .inr hq)
theorem RR.newer (h : RR w K r s p l most e v) (hb : Below w.heap.size w w') : RR w' (KX K w.heap.size w'.heap.size) r s p l most e v := by
  have h1 := h.below hb
  refine ⟨h1.blk, h1.own, h1.le, h1.small, fun k hk => hk.elim (h1.kb k) (·.2), fun hk => hk.elim h1.kr (fun a => by have := lt_of_block h.blk; omega), fun g hg hk => hk.elim (h1.ko g hg) (fun a => ?_)⟩
  obtain ⟨_, _, e⟩ := h.own_blk hg
  have := lt_of_block e
  omega
theorem RI.lessK {K' : Nat → Prop} {V : Value} {L : List Nat} (h : RI w K' V L) (hk : ∀ k, K k → K' k) : RI w K V L := ⟨h.own, fun k a => h.kb k (hk k a), fun g a b => h.ko g a (hk g b)⟩
theorem RI.hold {ao : Option Addr} {m cp : Nat} {L : List Nat} (h : RI w K (.slice ao m cp) L) (hr : RR w K r s p l most e v) :
    ∃ K5 : Nat → Prop, (∀ k, K k → K5 k) ∧ RR w K5 r s p l most e v ∧ (∀ W, UF K5 w W → RI W K (.slice ao m cp) L) ∧ (L = [] ∨ ∃ g, ao = some ⟨g, 0, none⟩ ∧ K5 g ∧ w.cell? ⟨g, L.length - 1, none⟩ = some (.int .i64 (L.getLastD 0 : Nat))) := by
  rcases h.own.2 with ⟨e, h0⟩ | ⟨g, cap, cur, e1, e2, e3, e4⟩
  · have hL : L = [] := List.length_eq_zero_iff.1 h0
    exact ⟨K, fun k a => a, hr, fun W hW => ⟨⟨h.own.1, .inl ⟨e, h0⟩⟩, fun k hk => Nat.lt_of_lt_of_le (h.kb k hk) hW.size, h.ko⟩, .inl hL⟩
  · obtain ⟨rfl, rfl⟩ : ao = some ⟨g, 0, none⟩ ∧ cp = cap := by cases e1; exact ⟨rfl, rfl⟩
    refine ⟨fun k => K k ∨ k = g, fun k a => .inl a, hr.addInt e3, fun W hW => ⟨⟨h.own.1, .inr ⟨g, cp, cur, e1, e2, by rw [hW.block g (.inr rfl)]; exact e3, e4⟩⟩, fun k hk => Nat.lt_of_lt_of_le (h.kb k hk) hW.size, h.ko⟩, ?_⟩
    by_cases hL : L = []
    · exact .inl hL
    · right
      have hp : 0 < L.length := List.length_pos_iff.2 hL
      refine ⟨g, rfl, .inr rfl, ?_⟩
      have hc := h.own.cells (g := g) rfl (L.length - 1) (.int .i64 (L.getLastD 0 : Nat)) (by
        unfold icl
        rw [List.getElem?_map, List.getElem?_eq_getElem (by omega)]
        simp [List.getLastD_eq_getLast?, List.getLast?_eq_getElem?, List.getElem?_eq_getElem (show L.length - 1 < L.length by omega)])
      rw [add_zero_addr] at hc
      exact hc
theorem RI.apart {V : Value} {L : List Nat} (h : RI w K V L) (hr : RR w K r s p l most e v) : RI w (fun k => (K k ∨ k = r) ∨ v.ownBlock = some k) V L := by
  refine ⟨h.own, ?_, ?_⟩
  · rintro k ((hk | rfl) | hk)
    · exact h.kb k hk
    · exact lt_of_block hr.blk
    · obtain ⟨_, _, e⟩ := hr.own_blk hk; exact lt_of_block e
  · intro g hg
    rcases h.own.2 with ⟨e, h0⟩ | ⟨g', cap, cur, e1, e2, e3, e4⟩
    · rw [e] at hg; simp [Value.ownBlock] at hg
    · have hgg : g' = g := by rw [e1] at hg; simpa [Value.ownBlock] using hg
      rw [hgg] at e3
      rintro ((hk | rfl) | hk)
      · exact h.ko g hg hk
      · have := hr.blk; rw [e3] at this; simp at this
      · obtain ⟨_, _, e⟩ := hr.own_blk hk; rw [e3] at e; simp at e
theorem whole_facts {ns : List Nat} (h : wholeB (inN ns) = true) : may (inN ns) = true ∧ ew ns 15 = 32768 ∧ (∀ i, ns.getD i 0 ≤ 15) := by
  unfold wholeB at h
  rw [Bool.and_eq_true] at h
  refine ⟨h.1, by have := of_decide_eq_true h.2; rw [nsOf_inN] at this; exact this, fun i => ?_⟩
  have := may_get h.1 i
  rw [inN_get] at this
  omega
theorem whole_zer {ns : List Nat} (h : wholeB (inN ns) = true) : zer ns ns.length = false := by
  obtain ⟨h1, h2, h3⟩ := whole_facts h
  cases hz : zer ns ns.length with
  | false => rfl
  | true => have := (zer_ew ns h3).1 hz; omega
def DSt (K : Nat → Prop) (r : Nat) (s : ByteArray) (l : List Nat) (most : Nat) (v : Value) (x1 : Nat) (w0 wc : World) (p e : Nat) (G : Prop) : Prop :=
  RR wc K r s p l most e v ∧ UF K w0 wc ∧ (e ≠ 0 → x1 = e) ∧ (e = 0 → G)
theorem rbF_num {n e' q' y : Nat} (h : rbF s p e n = (e', q', y)) : y < 2 ^ n := by
  unfold rbF at h
  split at h
  · cases h; exact Nat.two_pow_pos n
  · split at h
    · cases h; exact Nat.two_pow_pos n
    · cases h; exact num_lt s p n
theorem three {e1 q1 A e2 q2 B e3 q3 C : Nat} (h1 : rbF s p 0 5 = (e1, q1, A)) (h2 : rbF s q1 e1 5 = (e2, q2, B)) (h3 : rbF s q2 e2 4 = (e3, q3, C)) :
    (e3 = 0 → p + 14 ≤ 8 * s.size ∧ q3 = p + 14 ∧ A = num s p 5 ∧ B = num s (p + 5) 5 ∧ C = num s (p + 10) 4) ∧ (e3 ≠ 0 → e3 = 5 ∧ 8 * s.size < p + 14) := by
  unfold rbF at h1 h2 h3
  rw [if_neg (by simp)] at h1
  by_cases a : 8 * s.size < p + 5
  · rw [if_pos a] at h1; cases h1
    rw [if_pos (by simp)] at h2; cases h2
    rw [if_pos (by simp)] at h3; cases h3
    exact ⟨fun h => by simp at h, fun _ => ⟨rfl, by omega⟩⟩
  · rw [if_neg a] at h1; cases h1
    rw [if_neg (by simp)] at h2
    by_cases b : 8 * s.size < p + 5 + 5
    · rw [if_pos b] at h2; cases h2
      rw [if_pos (by simp)] at h3; cases h3
      exact ⟨fun h => by simp at h, fun _ => ⟨rfl, by omega⟩⟩
    · rw [if_neg b] at h2; cases h2
      rw [if_neg (by simp)] at h3
      by_cases c : 8 * s.size < p + 5 + 5 + 4
      · rw [if_pos c] at h3; cases h3
        exact ⟨fun h => by simp at h, fun _ => ⟨rfl, by omega⟩⟩
      · rw [if_neg c] at h3; cases h3
        exact ⟨fun _ => ⟨by omega, rfl, rfl, rfl, rfl⟩, fun h => absurd rfl h⟩
def DynEnd (K : Nat → Prop) (r : Nat) (s : ByteArray) (l : List Nat) (most : Nat) (v : Value) (w : World) (x : Nat × Nat × List Nat × List Nat) (en : Ending) (w' : World) : Prop :=
  UF K w w' ∧ ((x.1 ≠ 0 ∧ ∃ q, en = .returned (.tuple #[.agg #[.slice none 0 0, .slice none 0 0], .agg #[.slice none 0 0, .slice none 0 0]]) ∧ RR w' K r s q l most x.1 v) ∨
    (x.1 = 0 ∧ ∃ cv dv K', en = .returned (.tuple #[cv, dv]) ∧ (∀ k, K k → K' k) ∧ RR w' K' r s x.2.1 l most 0 v ∧ CodeAt w' K' cv x.2.2.1 ∧ CodeAt w' K' dv x.2.2.2 ∧ zer x.2.2.1 x.2.2.1.length = false))
theorem toldE_bad {q4 A B : Nat} {L : List Nat} (h : L.getD 256 0 = 0 ∨ wholeB (inN (L.take (257 + A))) = false ∨ (wholeB (inN (L.drop (257 + A))) = false ∧ 1 < sumTo (fun i => (L.drop (257 + A)).getD i 0) (1 + B))) : (toldE (0, q4, L) p A B).1 = 40 := by
  unfold toldE
  rw [if_neg (by simp)]
  by_cases h1 : L.getD 256 0 = 0
  · rw [if_pos h1]
  · rw [if_neg h1]
    by_cases h2 : wholeB (inN (L.take (257 + A))) = false
    · rw [if_pos (by exact h2)]
    · rw [if_neg (by exact h2)]
      rcases h with h | h | h
      · exact absurd h h1
      · exact absurd h h2
      · rw [if_pos (by exact h)]
theorem toldE_good {q4 A B : Nat} {L : List Nat} (h1 : L.getD 256 0 ≠ 0) (h2 : wholeB (inN (L.take (257 + A))) = true) (h3 : wholeB (inN (L.drop (257 + A))) = true ∨ sumTo (fun i => (L.drop (257 + A)).getD i 0) (1 + B) ≤ 1) : toldE (0, q4, L) p A B = (0, q4, L.take (257 + A), L.drop (257 + A)) := by
  unfold toldE
  rw [if_neg (by simp), if_neg h1, if_neg (by intro h; rw [show wholeB (intsOf (L.take (257 + A))) = true from h2] at h; simp at h), if_neg]
  rintro ⟨a, b⟩
  rcases h3 with h | h
  · rw [show wholeB (intsOf (L.drop (257 + A))) = true from h] at a; simp at a
  · have b : 1 < sumTo (fun i => (L.drop (257 + A)).getD i 0) (1 + B) := b
    omega
theorem dyn_bad {K4 : Nat → Prop} {x : Nat × Nat × List Nat × List Nat} {wN W : World} {q4 e6 H : Nat} (hr : RR wN K4 r s q4 l most e6 v) (he : e6 ≠ 0) (hx : x.1 = e6) (hu : UF K w wN) (hKb : ∀ k, K k → k < H) (hK4 : ∀ k, K k → K4 k) (h1 : K4 H) (h2 : K4 (H + 1))
    (go : W.os = wN.os) (gt : W.tape = wN.tape) (gp : W.output = wN.output) (gs : wN.heap.size ≤ W.heap.size) (hk : ∀ k, k ≠ H → k ≠ H + 1 → k < wN.heap.size → W.heap[k]? = wN.heap[k]?) : DynEnd K r s l most v w x (.returned (.tuple #[.agg #[.slice none 0 0, .slice none 0 0], .agg #[.slice none 0 0, .slice none 0 0]])) W := by
  have hrne : ∀ k, K4 k → ¬ (k = r ∨ v.ownBlock = some k) := fun k hk => by
    rintro (rfl | h)
    · exact hr.kr hk
    · exact hr.ko k h hk
  have hr0 : RR W K r s q4 l most e6 v := (hr.lessK hK4).held (K3 := fun k => k = r ∨ v.ownBlock = some k) ⟨go, gt, gp, gs, fun k hk' => hk k (fun e => hrne k (by rw [e]; exact h1) hk') (fun e => hrne k (by rw [e]; exact h2) hk') (by
    rcases hk' with rfl | h
    · exact lt_of_block hr.blk
    · obtain ⟨_, _, e⟩ := hr.own_blk h; exact lt_of_block e)⟩ (.inl rfl) (fun q hq => .inr hq)
  refine ⟨hu.trans ⟨go, gt, gp, gs, fun k hk' => ?_⟩, .inl ⟨by rw [hx]; exact he, q4, rfl, by rw [hx]; exact hr0⟩⟩
  have hb := hKb k hk'
  exact hk k (by omega) (by omega) (hr.kb k (hK4 k hk'))
set_option maxRecDepth 20000 in
set_option maxHeartbeats 4000000 in
theorem rdynamic_ok (h : RR w K r s p l most 0 v) :
    Calls Tryd.prog 17 #[.pointer (some ⟨r, 0, none⟩)] w fun en w' => DynEnd K r s l most v w (toldF s p) en w' := by
  obtain ⟨x, hx⟩ : ∃ x, toldF s p = x := ⟨_, rfl⟩
  rw [hx]
  have HX : Hid (toldF s p = x) := hx
  obtain ⟨o, hoo⟩ : ∃ o, Obj.cells #[Value.slice none 0 0, Value.slice none 0 0] 43 = o := ⟨_, rfl⟩
  have e1 : (w.alloc o).heap.size = w.heap.size + 1 := by simp
  have g0 := (h.new o).new o
  rw [e1] at g0
  have gu := (h.uf_alloc o).trans ((h.alloc o).uf_alloc o)
  have n2 : ((w.alloc o).alloc o).heap[w.heap.size + 1]? = some o := by rw [← e1]; exact heap_alloc_new _ _
  have n1 : ((w.alloc o).alloc o).heap[w.heap.size]? = some o := by rw [heap_alloc_old _ _ (by rw [e1]; omega)]; exact heap_alloc_new _ _
  obtain ⟨K1, hK1⟩ : ∃ K' : Nat → Prop, (fun k => (K k ∨ k = w.heap.size) ∨ k = w.heap.size + 1) = K' := ⟨_, rfl⟩
  rw [hK1] at g0
  have HK : Hid (∀ k, K k → K1 k) := fun k hk => by rw [← hK1]; exact .inl (.inl hk)
  have hk1 : K1 w.heap.size := by rw [← hK1]; exact .inl (.inr rfl)
  have hk2 : K1 (w.heap.size + 1) := by rw [← hK1]; exact .inr rfl
  obtain ⟨W0, hW0⟩ : ∃ W0, (w.alloc o).alloc o = W0 := ⟨_, rfl⟩
  rw [hW0] at g0 gu n1 n2
  have HU0 : Hid (UF K w W0 ∧ (∀ k, K k → k < w.heap.size)) := ⟨gu, h.kb⟩
  have HKH : Hid (K1 w.heap.size ∧ K1 (w.heap.size + 1)) := ⟨hk1, hk2⟩
  have HH : Hid (∀ wc, UF K1 W0 wc → wc.heap[w.heap.size]? = some (.cells #[Value.slice none 0 0, Value.slice none 0 0] 43) ∧ wc.heap[w.heap.size + 1]? = some (.cells #[Value.slice none 0 0, Value.slice none 0 0] 43)) := fun wc hf => ⟨by rw [hf.block _ hk1, n1, hoo], by rw [hf.block _ hk2, n2, hoo]⟩
  have H0 : Hid (RR W0 K1 r s p l most 0 v) := g0
  have HB : Hid (∀ (W : World) (q e n : Nat), n ≤ 57 → RR W K1 r s q l most e v → Calls Tryd.prog 13 #[.pointer (some ⟨r, 0, none⟩), .int .i64 n] W fun en w' => ∃ e' q' y, en = .returned (.int .i64 (y : Nat)) ∧ Hid (RR w' K1 r s q' l most e' v ∧ UF K1 W w' ∧ rbF s q e n = (e', q', y))) := fun W q e n hn hr => (rbits_ok hr n hn).mono fun en w' hh => ⟨_, _, _, hh.1, hh.2.1, hh.2.2, rfl⟩
  have HE : Hid (∀ (W : World) (q e : Nat), RR W K1 r s q l most e v → Calls Tryd.prog 18 #[.pointer (some ⟨r, 0, none⟩), .int .i64 40] W fun en w' => en = .returned (.tuple #[]) ∧ Hid (RR w' K1 r s q l most (if e = 0 then 40 else e) v ∧ UF K1 W w')) := fun W q e hr => (rends_ok hr 40 (by omega)).mono fun en w' hh => ⟨hh.1, hh.2.1, hh.2.2⟩
  clear h hx g0 gu n1 n2 hk1 hk2 hK1 e1
  go_enter Tryd.func17, Tryd.ntmps17
  go_wp2_with fail
  try rw [hoo]
  try rw [hW0]
  clear hoo hW0
  refine (HB.out W0 p 0 5 (by omega) H0.out).mono ?_
  rintro en w1 ⟨e1, q1, A, rfl, H1⟩
  go_wp2_with fail
  refine (HB.out w1 q1 e1 5 (by omega) H1.out.1).mono ?_
  rintro en w2 ⟨e2, q2, B, rfl, H2⟩
  go_wp2_with fail
  refine (HB.out w2 q2 e2 4 (by omega) H2.out.1).mono ?_
  rintro en w3 ⟨e3, q3, C, rfl, H3⟩
  have hA : A < 32 := rbF_num H1.out.2.2
  have hB : B < 32 := rbF_num H2.out.2.2
  have hC : C < 16 := rbF_num H3.out.2.2
  have HT := three H1.out.2.2 H2.out.2.2 H3.out.2.2
  have HS : Hid (DSt K1 r s l most v x.1 W0 w3 q3 e3 (p + 14 ≤ 8 * s.size ∧ q3 = p + 14 ∧ A = num s p 5 ∧ B = num s (p + 5) 5 ∧ C = num s (p + 10) 4)) := ⟨H3.out.1, (H1.out.2.1.trans H2.out.2.1).trans H3.out.2.1, fun hne => by
    obtain ⟨h5, hlt⟩ := HT.2 hne
    rw [h5, ← HX.out]; unfold toldF; rw [if_pos hlt], HT.1⟩
  clear HT H1 H2 H3
  obtain ⟨t1, ht1⟩ : ∃ t1, decide (29 < A ∨ 29 < B) = t1 := ⟨_, rfl⟩
  have HT1 : Hid (decide (29 < A ∨ 29 < B) = t1) := ht1
  clear ht1
  go_upto_region 4 with fail
  go_cut [33] (fun v33 wc => v33 = .bool t1 ∧ wc = w3)
  case first =>
    as_aux_lemma =>
      by_cases hA29 : 29 < A
      · have i1 : (286 : Int) < 257 + (A : Int) := by omega
        have HBt : Hid (t1 = true) := by show t1 = true; rw [← HT1.out]; simp [hA29]
        go_wp2_with fail
        go_meet
        case rel => exact ⟨by rw [HBt.out], rfl⟩
      · have i1 : ¬ (286 : Int) < 257 + (A : Int) := by omega
        by_cases hB29 : 29 < B
        · have i2 : (30 : Int) < 1 + (B : Int) := by omega
          have HBt : Hid (t1 = true) := by show t1 = true; rw [← HT1.out]; simp [hB29]
          go_wp2_with fail
          go_meet
          case rel => exact ⟨by rw [HBt.out], rfl⟩
        · have i2 : ¬ (30 : Int) < 1 + (B : Int) := by omega
          have HBt : Hid (t1 = false) := by show t1 = false; rw [← HT1.out]; simp [hA29, hB29]
          go_wp2_with fail
          go_meet
          case rel => exact ⟨by rw [HBt.out], rfl⟩
  case rest =>
    obtain ⟨rfl, hwc⟩ := hcut
    obtain rfl := hwc.symm
    go_upto_if 33 with fail
    go_cut [] (fun wd => ∃ (e4 : Nat), Hid (DSt K1 r s l most v x.1 W0 wd q3 e4 ((p + 14 ≤ 8 * s.size ∧ q3 = p + 14 ∧ A = num s p 5 ∧ B = num s (p + 5) 5 ∧ C = num s (p + 10) 4) ∧ A ≤ 29 ∧ B ≤ 29)))
    case first =>
      as_aux_lemma =>
        cases t1 with
        | true =>
          go_wp2_with (first | (go_at_call 18; refine (HE.out w3 q3 e3 HS.out.1).mono ?_; rintro en w4 ⟨rfl, H4⟩))
          go_meet
          case rel =>
            refine ⟨_, H4.out.1, HS.out.2.1.trans H4.out.2, ?_, ?_⟩
            · intro hne
              by_cases he : e3 = 0
              · rw [if_pos he]
                obtain ⟨g1, g2, g3, g4, g5⟩ := HS.out.2.2.2 he
                have := of_decide_eq_true HT1.out
                rw [← HX.out]; unfold toldF; rw [if_neg (by omega), if_pos (by rw [← g3, ← g4]; exact this)]
              · rw [if_neg he]; exact HS.out.2.2.1 he
            · intro h0
              by_cases he : e3 = 0
              · rw [if_pos he] at h0; simp at h0
              · rw [if_neg he] at h0; exact absurd h0 he
        | false =>
          go_wp2_with fail
          go_meet
          case rel => exact ⟨e3, HS.out.1, HS.out.2.1, HS.out.2.2.1, fun he => ⟨HS.out.2.2.2 he, by have := of_decide_eq_false HT1.out; omega⟩⟩
    case rest =>
      obtain ⟨e4, HS4⟩ := hcut
      obtain ⟨w4, hw4⟩ : ∃ w4, w4 = wc := ⟨_, rfl⟩
      subst hw4
      clear HS HT1
      go_upto_region 7 with fail
      obtain ⟨oO, hoO⟩ : ∃ o, Obj.cells #[Value.int .i64 16, Value.int .i64 17, Value.int .i64 18, Value.int .i64 0, Value.int .i64 8, Value.int .i64 7, Value.int .i64 9, Value.int .i64 6, Value.int .i64 10, Value.int .i64 5, Value.int .i64 11, Value.int .i64 4, Value.int .i64 12, Value.int .i64 3, Value.int .i64 13, Value.int .i64 2, Value.int .i64 14, Value.int .i64 1, Value.int .i64 15] 3 = o := ⟨_, rfl⟩
      rw [hoO]
      have HOO : Hid (∀ i, i < 19 → ∀ (W : World), W.heap[w4.heap.size]? = some oO → W.cell? ⟨w4.heap.size, i, none⟩ = some (.int .i64 (ordL.getD i 0 : Nat))) := fun i hi W hW => by
        rw [← hoO] at hW
        simp only [World.cell?, hW]
        exact ordL_arr i hi
      clear hoO
      obtain ⟨i0, hi0, hz0, hz1, hz2⟩ := info_split intInfo
      have HI : Hid (Tryd.prog.info? 3 = some i0 ∧ i0.zero = some (.int .i64 0) ∧ i0.size = 1 ∧ i0.bytes = 8) := ⟨hi0, hz0, hz1, hz2⟩
      have HMK := made_lcells 19
      clear hi0 hz0 hz1 hz2
      go_upto_block 0 with (at_make; refine wpList_make_row _ rfl _ _ 41 rfl 3 i0 (.int .i64 0) Tryd.underlying41 HI.out.1 HI.out.2.1 HI.out.2.2.1 rfl .i64 .i64 19 rfl rfl (by rw [HI.out.2.2.2]; omega) (by omega) ?_; rw [HMK])
      clear HMK
      -- the worlds and what is kept
      obtain ⟨g1, hg1⟩ : ∃ g, w4.heap.size = g := ⟨_, rfl⟩
      have es : (w4.alloc oO).heap.size = g1 + 1 := by simp [hg1]
      have r6 := (HS4.out.1.new oO).alloc (.cells (lcells 19 fun _ => 0) 3)
      have u6 : UF K1 w4 ((w4.alloc oO).alloc (.cells (lcells 19 fun _ => 0) 3)) := (HS4.out.1.uf_alloc oO).trans ((HS4.out.1.alloc oO).uf_alloc _)
      have b1 : ((w4.alloc oO).alloc (.cells (lcells 19 fun _ => 0) 3)).heap[g1]? = some oO := by rw [heap_alloc_old _ _ (by rw [es]; omega), ← hg1]; exact heap_alloc_new _ _
      have b2 : LB ((w4.alloc oO).alloc (.cells (lcells 19 fun _ => 0) 3)) (g1 + 1) 19 (fun _ => 0) := by rw [← es]; exact heap_alloc_new (w4.alloc oO) (.cells (lcells 19 fun _ => 0) 3)
      obtain ⟨W6, hW6⟩ : ∃ W, (w4.alloc oO).alloc (.cells (lcells 19 fun _ => 0) 3) = W := ⟨_, rfl⟩
      rw [hW6] at r6 u6 b1 b2 ⊢
      rw [hg1] at HOO r6 ⊢
      obtain ⟨K2, hK2⟩ : ∃ K' : Nat → Prop, (fun k => K1 k ∨ k = g1) = K' := ⟨_, rfl⟩
      rw [hK2] at r6
      have HK2 : Hid ((∀ k, K1 k → K2 k) ∧ K2 g1 ∧ ¬ K2 (g1 + 1)) := ⟨fun k hk => by rw [← hK2]; exact .inl hk, by rw [← hK2]; exact .inr rfl, by
        rw [← hK2]
        rintro (a | a)
        · have := HS4.out.1.kb _ a; omega
        · omega⟩
      have HORD : Hid (∀ W, UF K2 W6 W → ∀ i, i < 19 → W.cell? ⟨g1, i, none⟩ = some (.int .i64 (ordL.getD i 0 : Nat))) := fun W hW i hi => HOO.out i hi W (by rw [hW.block _ HK2.out.2.1]; exact b1)
      have HU6 : Hid (UF K1 W0 W6) := HS4.out.2.1.trans u6
      obtain ⟨FI, hFI⟩ : ∃ f, C + 4 = f := ⟨_, rfl⟩
      have hFIi : (C : Int) + 4 = (FI : Int) := by omega
      have hFIb : FI ≤ 19 := by omega
      have HFI : Hid (C + 4 = FI) := hFI
      have HS6 : Hid (DSt K2 r s l most v x.1 W6 W6 q3 e4 ((p + 14 ≤ 8 * s.size ∧ q3 = p + 14 ∧ A = num s p 5 ∧ B = num s (p + 5) 5 ∧ C = num s (p + 10) 4) ∧ A ≤ 29 ∧ B ≤ 29) ∧ LB W6 (g1 + 1) 19 (fun _ => 0)) := ⟨⟨r6, UF.refl _ _, HS4.out.2.2.1, HS4.out.2.2.2⟩, b2⟩
      clear hW6 hg1 es r6 u6 b1 b2 hK2 HS4 HOO hFI
      go_cut [] (fun wd => Hid (∃ q e F, DSt K2 r s l most v x.1 W6 wd q e (((p + 14 ≤ 8 * s.size ∧ q3 = p + 14 ∧ A = num s p 5 ∧ B = num s (p + 5) 5 ∧ C = num s (p + 10) 4) ∧ A ≤ 29 ∧ B ≤ 29) ∧ q = p + 14 + 3 * FI ∧ F = fcOf s (p + 14) FI) ∧ LB wd (g1 + 1) 19 F))
      case first =>
        as_aux_lemma =>
          go_wp2_with fail
          go_loopw [9] (fun v9 wr => ∃ i : Nat, v9 = .int .i64 i ∧ i ≤ FI ∧ Hid (∃ q e F, DSt K2 r s l most v x.1 W6 wr q e (((p + 14 ≤ 8 * s.size ∧ q3 = p + 14 ∧ A = num s p 5 ∧ B = num s (p + 5) 5 ∧ C = num s (p + 10) 4) ∧ A ≤ 29 ∧ B ≤ 29) ∧ q = p + 14 + 3 * i ∧ F = fcOf s (p + 14) i) ∧ LB wr (g1 + 1) 19 F)) (fun v9 _ => FI - (intOf v9).toNat)
          case atStart => exact ⟨0, rfl, Nat.zero_le _, q3, e4, fun _ => 0, ⟨HS6.out.1.1, HS6.out.1.2.1, HS6.out.1.2.2.1, fun he => ⟨HS6.out.1.2.2.2 he, by have := (HS6.out.1.2.2.2 he).1.2.1; omega, rfl⟩⟩, HS6.out.2⟩
          case round =>
            obtain ⟨i, rfl, hi, HS⟩ := hrel
            obtain ⟨q, e, F, hD, hrow⟩ := HS.out
            have d4 := hD.1.cells.2.2.2.2
            by_cases hlt : i < FI
            · have hlti : (i : Int) < (FI : Int) := by omega
              by_cases he : e = 0
              · subst he
                have c1 := HORD.out wr hD.2.1 i (by omega)
                have hol := ordL_lt i
                obtain ⟨o2, ho⟩ : ∃ o, ordL.getD i 0 = o := ⟨_, rfl⟩
                rw [ho] at c1 hol
                obtain ⟨d1, d2⟩ := hrow.cell hol
                have hk19 : (i : Int) < 19 := by omega
                have ho19 : (o2 : Int) < 19 := by omega
                have hr1 := hD.1.addInt hrow
                have HUB := rbits_ok (hr1.drewN 1) 3 (by omega)
                obtain ⟨⟨e', q', y⟩, hrb⟩ : ∃ z, rbF s q 0 3 = z := ⟨_, rfl⟩
                rw [hrb] at HUB
                obtain ⟨y0, hy0⟩ : ∃ y, F o2 = y := ⟨_, rfl⟩
                rw [hy0] at d1
                have HU : Hid (∀ _ : Unit, Calls Tryd.prog 13 #[.pointer (some ⟨r, 0, none⟩), .int .i64 (3 : Nat)] wr.drew fun en w' => en = .returned (.int .i64 (y : Nat)) ∧ w'.cell? ⟨g1, i, none⟩ = some (.int .i64 (o2 : Nat)) ∧ w'.cell? ⟨g1 + 1, o2, none⟩ = some (.int .i64 (y0 : Nat)) ∧ w'.frozen? ⟨g1 + 1, o2, none⟩ = false ∧ UF (fun k => K2 k ∨ k = g1 + 1) wr w' ∧ RR w' K2 r s q' l most e' v) := fun _ => HUB.mono fun en w' hh => by
                  obtain ⟨h1, h2, h3⟩ := hh
                  have hf' : UF (fun k => K2 k ∨ k = g1 + 1) wr w' := ⟨h3.os, h3.tape, h3.output, h3.size, h3.block⟩
                  exact ⟨h1, by rw [World.cell?_of_block (w := wr) (hf'.block g1 (.inl HK2.out.2.1))]; exact c1, by rw [World.cell?_of_block (w := wr) (hf'.block (g1 + 1) (.inr rfl))]; exact d1, by rw [World.frozen?_of_block (w := wr) (hf'.block (g1 + 1) (.inr rfl))]; exact d2, hf', h2.lessK (fun k hk => .inl hk)⟩
                have HXX : Hid (rbF s q 0 3 = (e', q', y) ∧ ordL.getD i 0 = o2 ∧ DSt K2 r s l most v x.1 W6 wr q 0 (((p + 14 ≤ 8 * s.size ∧ q3 = p + 14 ∧ A = num s p 5 ∧ B = num s (p + 5) 5 ∧ C = num s (p + 10) 4) ∧ A ≤ 29 ∧ B ≤ 29) ∧ q = p + 14 + 3 * i ∧ F = fcOf s (p + 14) i) ∧ LB wr (g1 + 1) 19 F) := ⟨hrb, ho, hD, hrow⟩
                clear HUB hrb ho hy0 hr1 hD hrow HS
                go_wp2_with fail
                go_region_with (go_at_call 13; refine (HU.out ()).mono ?_; rintro en w2 ⟨rfl, c1', d1', d2', hne⟩; have HN2 : Hid _ := hne; clear hne)
                all_goals
                  have HNX : Hid (∃ q e F, DSt K2 r s l most v x.1 W6 (w2.setCell ⟨g1 + 1, o2, none⟩ (.int .i64 (y : Nat))) q e (((p + 14 ≤ 8 * s.size ∧ q3 = p + 14 ∧ A = num s p 5 ∧ B = num s (p + 5) 5 ∧ C = num s (p + 10) 4) ∧ A ≤ 29 ∧ B ≤ 29) ∧ q = p + 14 + 3 * (i + 1) ∧ F = fcOf s (p + 14) (i + 1)) ∧ LB (w2.setCell ⟨g1 + 1, o2, none⟩ (.int .i64 (y : Nat))) (g1 + 1) 19 F) := by
                    obtain ⟨m1, m2⟩ := HN2.out
                    obtain ⟨x1, x2, x3, x4⟩ := HXX.out
                    obtain ⟨⟨z1, z2, z3⟩, z4, z5⟩ := x3.2.2.2 rfl
                    have hrow2 : LB w2 (g1 + 1) 19 F := (m1.block (g1 + 1) (.inr rfl)).trans x4
                    have hon : Only (g1 + 1) w2 (w2.setCell ⟨g1 + 1, o2, none⟩ (.int .i64 (y : Nat))) := Only.setCell (g1 + 1) o2 w2 _
                    have hu2 : UF K2 W6 (w2.setCell ⟨g1 + 1, o2, none⟩ (.int .i64 (y : Nat))) := (x3.2.1.trans (m1.less (fun k hk => .inl hk))).trans (UF.only hon m2.kb HK2.out.2.2)
                    have hr2 := m2.beside hrow2 hon
                    have hset := hrow2.set o2 y
                    unfold rbF at x1
                    rw [if_neg (by simp)] at x1
                    by_cases hs : 8 * s.size < q + 3
                    · rw [if_pos hs] at x1
                      cases x1
                      refine ⟨_, 5, _, ⟨hr2, hu2, fun _ => ?_, fun h => by simp at h⟩, hset⟩
                      rw [← HX.out]; unfold toldF
                      rw [if_neg (by omega), if_neg (by rw [← z1.2.2.1, ← z1.2.2.2.1]; omega), if_pos (by rw [← z1.2.2.2.2]; have := HFI.out; omega)]
                    · rw [if_neg hs] at x1
                      cases x1
                      refine ⟨_, 0, fcOf s (p + 14) (i + 1), ⟨hr2, hu2, fun h => absurd rfl h, fun _ => ⟨⟨z1, z2, z3⟩, by omega, rfl⟩⟩, hset.congr (fun j hj => ?_)⟩
                      show _ = if j = ordL.getD i 0 then num s (p + 14 + 3 * i) 3 else fcOf s (p + 14) i j
                      rw [x2, z4, z5]
                  go_wp2
                  exact ⟨⟨i + 1, by go_num, by omega, HNX⟩, by simp [intOf]; omega⟩
              · have hei : ¬ (e : Int) = 0 := by omega
                have heb : ((e : Int) == 0) = false := by simp; omega
                have HR : Hid (DSt K2 r s l most v x.1 W6 wr q e (((p + 14 ≤ 8 * s.size ∧ q3 = p + 14 ∧ A = num s p 5 ∧ B = num s (p + 5) 5 ∧ C = num s (p + 10) 4) ∧ A ≤ 29 ∧ B ≤ 29) ∧ q = p + 14 + 3 * FI ∧ F = fcOf s (p + 14) FI) ∧ LB wr (g1 + 1) 19 F) := ⟨⟨hD.1, hD.2.1, hD.2.2.1, fun h => absurd h he⟩, hrow⟩
                clear hD hrow HS
                go_wp2_with fail
                go_meet
                case rel => exact ⟨q, e, F, HR.out⟩
            · have hlti : ¬ (i : Int) < (FI : Int) := by omega
              obtain rfl : i = FI := by omega
              clear hD hrow
              go_wp2_with fail
              go_meet
              case rel => exact HS
      case rest =>
        obtain ⟨w7, hw7⟩ : ∃ w7, w7 = wc := ⟨_, rfl⟩
        subst hw7
        clear HS6
        obtain ⟨q, e, F, hD, hrow⟩ := hcut.out
        obtain ⟨FL, hFL⟩ : ∃ L : List Nat, (List.range 19).map F = L := ⟨_, rfl⟩
        have hFn : inN FL = (List.range 19).map fun i => ((F i : Nat) : Int) := by rw [← hFL]; unfold inN; rw [List.map_map]; rfl
        have hrw : IRow w7 (some ⟨g1 + 1, 0, none⟩) (inN FL) := by rw [hFn]; exact hrow.row
        have hFLl : FL.length = 19 := by rw [← hFL]; simp
        obtain ⟨t2, ht2⟩ : ∃ t, wholeB (inN FL) = t := ⟨_, rfl⟩
        have r7 := hD.1.addInt hrow
        obtain ⟨K3, hK3⟩ : ∃ K' : Nat → Prop, (fun k => K2 k ∨ k = g1 + 1) = K' := ⟨_, rfl⟩
        rw [hK3] at r7
        have HK3 : Hid ((∀ k, K1 k → K3 k) ∧ K3 (g1 + 1)) := ⟨fun k hk => by rw [← hK3]; exact .inl (HK2.out.1 k hk), by rw [← hK3]; exact .inr rfl⟩
        have HFU : Hid (∀ _ : Unit, Calls Tryd.prog 33 #[.slice (some ⟨g1 + 1, 0, none⟩) 19 19] w7 fun e w' => e = .returned (.bool t2) ∧ w' = w7) := fun _ => by rw [← ht2]; exact rfull_ok (inN FL) _ 19 19 w7 (by rw [inN_length, hFLl]) hrw (by omega)
        have HS7 : Hid (DSt K3 r s l most v x.1 w7 w7 q e (q = p + 14 + 3 * (4 + C) ∧ FL = fcL s (p + 14) (4 + C) ∧ A ≤ 29 ∧ B ≤ 29 ∧ (t2 = false → x.1 = 40) ∧ (t2 = true → x = toldE (toldL s p A B C) p A B))) := ⟨r7, UF.refl _ _, hD.2.2.1, fun he => by
          obtain ⟨⟨z1, z2, z3⟩, z4, z5⟩ := hD.2.2.2 he
          have hfi : FI = 4 + C := by have := HFI.out; omega
          rw [hfi] at z4 z5
          subst z5
          have hle := r7.le
          have hwb : wholeB ((List.range 19).map fun i => (fcOf s (p + 14) (4 + C) i : Int)) = t2 := by rw [← hFn]; exact ht2
          refine ⟨z4, by rw [← hFL]; rfl, z2, z3, fun ht => ?_, fun ht => ?_⟩
          · rw [← HX.out]; unfold toldF
            rw [← z1.2.2.1, ← z1.2.2.2.1, ← z1.2.2.2.2, if_neg (by omega), if_neg (by omega), if_neg (by omega), if_pos (by rw [hwb, ht])]
          · rw [← HX.out]; unfold toldF
            rw [← z1.2.2.1, ← z1.2.2.2.1, ← z1.2.2.2.2, if_neg (by omega), if_neg (by omega), if_neg (by omega), if_neg (by rw [hwb, ht]; simp)]⟩
        have HT2 : Hid (wholeB (inN FL) = t2 ∧ FL.length = 19 ∧ IRow w7 (some ⟨g1 + 1, 0, none⟩) (inN FL)) := ⟨ht2, hFLl, hrw⟩
        have HU7 : Hid (UF K1 W0 w7) := HU6.out.trans (hD.2.1.less HK2.out.1)
        clear hD hrow hFL hFn hrw hFLl ht2 r7 hK3 hcut HORD HU6
        go_upto_if 61 with (first | (go_at_call 33; refine (HFU.out ()).mono ?_; rintro en wf ⟨rfl, hwf⟩; obtain rfl := hwf.symm; clear hwf))
        clear HFU
        go_cut [] (fun wd => ∃ (e5 : Nat), Hid (DSt K3 r s l most v x.1 w7 wd q e5 (q = p + 14 + 3 * (4 + C) ∧ FL = fcL s (p + 14) (4 + C) ∧ A ≤ 29 ∧ B ≤ 29 ∧ t2 = true ∧ x = toldE (toldL s p A B C) p A B)))
        case first =>
          as_aux_lemma =>
            cases t2 with
            | false =>
              have HEN : Hid (∀ _ : Unit, Calls Tryd.prog 18 #[.pointer (some ⟨r, 0, none⟩), .int .i64 40] w7 fun en w' => en = .returned (.tuple #[]) ∧ RR w' K3 r s q l most (if e = 0 then 40 else e) v ∧ UF K3 w7 w') := fun _ => rends_ok HS7.out.1 40 (by omega)
              go_wp2_with (first | (go_at_call 18; refine (HEN.out ()).mono ?_; rintro en wC ⟨rfl, hrC, huC⟩; have HR1 : Hid (RR wC K3 r s q l most (if e = 0 then 40 else e) v ∧ UF K3 w7 wC) := ⟨hrC, huC⟩; clear hrC huC))
              go_meet
              case rel =>
                refine ⟨_, HR1.out.1, HR1.out.2, ?_, ?_⟩
                · intro hne
                  by_cases he : e = 0
                  · rw [if_pos he]; exact (HS7.out.2.2.2 he).2.2.2.2.1 (by first | rfl | trivial)
                  · rw [if_neg he]; exact HS7.out.2.2.1 he
                · intro h0
                  by_cases he : e = 0
                  · rw [if_pos he] at h0; simp at h0
                  · rw [if_neg he] at h0; exact absurd h0 he
            | true =>
              go_wp2_with fail
              go_meet
              case rel => exact ⟨e, HS7.out.1, HS7.out.2.1, HS7.out.2.2.1, fun he => by
                obtain ⟨a1, a2, a3, a4, a5, a6⟩ := HS7.out.2.2.2 he
                exact ⟨a1, a2, a3, a4, (by first | rfl | trivial), a6 (by first | rfl | trivial)⟩⟩
        case rest =>
          obtain ⟨e5, HS8⟩ := hcut
          obtain ⟨w8, hw8⟩ : ∃ w8, w8 = wc := ⟨_, rfl⟩
          subst hw8
          clear HS7
          have HM : Hid (∀ _ : Unit, Calls Tryd.prog 30 #[.slice (some ⟨g1 + 1, 0, none⟩) 19 19] w8 fun e w' => MadeEnd w8 (some ⟨g1 + 1, 0, none⟩) 19 19 (inN FL) e w') := fun _ => rmade_ok (inN FL) _ 19 19 w8 (by rw [inN_length, HT2.out.2.1]) (HT2.out.2.2.uf (K := K3) (fun b o e => by cases e; exact HK3.out.2) HS8.out.2.1) (by omega)
          obtain ⟨NN, hNN⟩ : ∃ n, 258 + A + B = n := ⟨_, rfl⟩
          have hNNi : (257 : Int) + (A : Int) + 1 + (B : Int) = (NN : Int) := by omega
          go_upto_block 2 with (first | (go_at_call 30; refine (HM.out ()).mono ?_; rintro en w9 ⟨hb9, ya, yn, yc, rfl, hy9⟩; have HB9 : Hid (Below w8.heap.size w8 w9) := hb9; have HY9 : Hid _ := hy9; clear hb9 hy9))
          obtain ⟨oF, hoF⟩ : ∃ o, Obj.cells #[Value.slice (some ⟨g1 + 1, 0, none⟩) 19 19, Value.slice ya yn yc] 43 = o := ⟨_, rfl⟩
          rw [hoF]
          have b9 := HB9.out
          have bA : Below w8.heap.size w8 (w9.alloc oF) := b9.alloc b9.size _
          have nA : (w9.alloc oF).heap[w9.heap.size]? = some oF := heap_alloc_new _ _
          have sA : (w9.alloc oF).heap.size = w9.heap.size + 1 := by simp
          have rA := HS8.out.1.newer bA
          obtain ⟨Wa, hWa⟩ : ∃ W, w9.alloc oF = W := ⟨_, rfl⟩
          have u9a : UF (fun k => k < w9.heap.size) w9 Wa := by rw [← hWa]; exact UF.below ((Below.refl _ _).alloc (Nat.le_refl _) _) (fun k h => h)
          rw [hWa] at bA nA sA rA ⊢
          obtain ⟨g3, hg3⟩ : ∃ g, w9.heap.size = g := ⟨_, rfl⟩
          obtain ⟨K4, hK4⟩ : ∃ K' : Nat → Prop, KX K3 w8.heap.size Wa.heap.size = K' := ⟨_, rfl⟩
          have hcode : wholeB (inN FL) = true → CodeAt Wa K4 (.agg #[.slice (some ⟨g1 + 1, 0, none⟩) 19 19, .slice ya yn yc]) FL := fun hwh => by
            obtain ⟨f1, f2, f3⟩ := whole_facts hwh
            have hme : MadeEnd w8 (some ⟨g1 + 1, 0, none⟩) FL.length 19 (inN FL) (.returned (.agg #[.slice (some ⟨g1 + 1, 0, none⟩) 19 19, .slice ya yn yc])) w9 := by rw [HT2.out.2.1]; exact ⟨b9, ya, yn, yc, rfl, HY9.out⟩
            obtain ⟨_, cv, hcv, hc9⟩ := hme.code (K := fun k => K4 k ∧ k < w9.heap.size) (HT2.out.2.2.uf (K := K3) (fun b o e => by cases e; exact HK3.out.2) HS8.out.2.1) (fun b o e => by
              cases e
              have h8 := HS8.out.1.kb _ HK3.out.2
              have h9 := b9.size
              exact ⟨by rw [← hK4]; exact .inl HK3.out.2, by omega⟩) f3 (by rw [HT2.out.2.1]; omega) (by omega) (fun k h1 h2 => ⟨by rw [← hK4]; exact .inr ⟨h1, by omega⟩, h2⟩)
            cases hcv
            exact (hc9.uf (u9a.less (fun k hk => hk.2))).more (fun k hk => hk.1)
          rw [hK4] at rA
          have hk43 : ∀ k, K3 k → K4 k := fun k hk => by rw [← hK4]; exact .inl hk
          have hk4g : K4 w9.heap.size := by rw [← hK4]; exact .inr ⟨b9.size, by omega⟩
          have HC : Hid (∀ W, UF K4 Wa W → W.cell? ⟨g3, 0, none⟩ = some (.slice (some ⟨g1 + 1, 0, none⟩) 19 19) ∧ W.cell? ⟨g3, 1, none⟩ = some (.slice ya yn yc) ∧ (wholeB (inN FL) = true → CodeAt W K4 (.agg #[.slice (some ⟨g1 + 1, 0, none⟩) 19 19, .slice ya yn yc]) FL)) := fun W hW => by
            have hb : W.heap[g3]? = some (.cells #[Value.slice (some ⟨g1 + 1, 0, none⟩) 19 19, Value.slice ya yn yc] 43 (0, 0)) := by rw [← hg3, hW.block _ hk4g, nA, hoF]
            obtain ⟨c0, c1, _, _⟩ := code_blk hb
            exact ⟨c0, c1, fun h => (hcode h).uf hW⟩
          have HK4 : Hid ((∀ k, K1 k → K4 k) ∧ UF K1 W0 Wa) := ⟨fun k hk => hk43 k (HK3.out.1 k hk), (HU7.out.trans (HS8.out.2.1.less HK3.out.1)).trans (UF.below bA (fun k hk => HS8.out.1.kb k (HK3.out.1 k hk)))⟩
          have HSA : Hid (DSt K4 r s l most v x.1 Wa Wa q e5 (q = p + 14 + 3 * (4 + C) ∧ FL = fcL s (p + 14) (4 + C) ∧ A ≤ 29 ∧ B ≤ 29 ∧ wholeB (inN FL) = true ∧ x = toldE (toldL s p A B C) p A B)) := ⟨rA, UF.refl _ _, HS8.out.2.2.1, fun he => by
            obtain ⟨a1, a2, a3, a4, a5, a6⟩ := HS8.out.2.2.2 he
            exact ⟨a1, a2, a3, a4, by rw [HT2.out.1]; exact a5, a6⟩⟩
          have HFL : Hid (FL.length = 19) := HT2.out.2.1
          have HNN : Hid (258 + A + B = NN) := hNN
          rw [hg3]
          clear hoF b9 bA nA sA rA u9a hWa hg3 hK4 hcode hk43 hk4g HS8 HT2 HB9 HY9 HU7 HK3 HM hNN hNNi
          have hNNb : NN ≤ 320 := by have := HNN.out; omega
          have hNN1 : 1 ≤ NN := by have := HNN.out; omega
          go_cut [11] (fun v11 wd => ∃ (ao : Option Addr) (cp m : Nat), v11 = .slice ao m cp ∧ m ≤ NN ∧ Hid (∃ q e L, L.length = m ∧ (∀ z ∈ L, z ≤ 15) ∧ RI wd K4 (.slice ao m cp) L ∧ DSt K4 r s l most v x.1 Wa wd q e (x = toldE (toldL s p A B C) p A B ∧ m = NN ∧ toldL s p A B C = (0, q, L))))
          case first =>
            as_aux_lemma =>
              go_wp2_with fail
              go_loopw [11] (fun v11 wr => ∃ (ao : Option Addr) (cp m : Nat), v11 = .slice ao m cp ∧ m ≤ NN ∧ Hid (∃ q e L, L.length = m ∧ (∀ z ∈ L, z ≤ 15) ∧ RI wr K4 (.slice ao m cp) L ∧ DSt K4 r s l most v x.1 Wa wr q e (x = toldE (toldL s p A B C) p A B ∧ wholeB (inN FL) = true ∧ lensF FL s NN (NN + 1 - L.length) q L = toldL s p A B C))) (fun v11 wr => if rErr wr r = 0 then NN + 1 - sliceLen v11 else 0)
              case atStart => exact ⟨none, 0, 0, rfl, Nat.zero_le _, q, e5, [], rfl, by simp, RI.nil _ _ HSA.out.1.kb, HSA.out.1, HSA.out.2.1, HSA.out.2.2.1, fun he => by
                obtain ⟨a1, a2, a3, a4, a5, a6⟩ := HSA.out.2.2.2 he
                refine ⟨a6, a5, ?_⟩
                rw [a1, a2]
                show _ = lensF (fcL s (p + 14) (4 + C)) s (258 + A + B) (258 + A + B + 1) (p + 14 + 3 * (4 + C)) []
                rw [HNN.out]; rfl⟩
              case round =>
                obtain ⟨ao, cp, m, rfl, hm, HS⟩ := hrel
                obtain ⟨q2, e, L, hLm, hL15, hRI, hD⟩ := HS.out
                have d4 := hD.1.cells.2.2.2.2
                by_cases hlt : m < NN
                · have hlti : (m : Int) < (NN : Int) := by omega
                  by_cases he : e = 0
                  · subst he
                    obtain ⟨hxE, hwh, hlF⟩ := hD.2.2.2 rfl
                    obtain ⟨f1, f2, f3⟩ := whole_facts hwh
                    obtain ⟨K5, k1, k2, k3, k4⟩ := hRI.hold hD.1
                    obtain ⟨c0, c1, hcd⟩ := HC.out wr hD.2.1
                    have HSY := rsymbol_ok k2 _ FL ((hcd hwh).more k1)
                    rw [rsF_usym f3 (whole_zer hwh)] at HSY
                    have hyin := usym_in FL s q2
                    have HRUN : Hid (∀ er p' a b, runF FL s q2 L = (er, p', a, b) → er ≠ 0 → x.1 = er) := fun er p' a b hr hne => by
                      rw [hxE, ← hlF, lens_bad (by omega) hr hne]
                      unfold toldE; rw [if_pos (by exact hne)]
                    have hrlen := runF_len (s := s) (p := q2) HFL.out hL15
                    have hrF : runF FL s q2 L = if (usym FL s q2).1 ≠ 0 then ((usym FL s q2).1, q2, 0, 0)
                        else if (usym FL s q2).2.2 = 16 then (if L = [] then (40, q2, 0, 0) else ((ub s (usym FL s q2).2.1 2).1, (ub s (usym FL s q2).2.1 2).2.1, L.getLastD 0, 3 + (ub s (usym FL s q2).2.1 2).2.2))
                        else if (usym FL s q2).2.2 = 17 then ((ub s (usym FL s q2).2.1 3).1, (ub s (usym FL s q2).2.1 3).2.1, 0, 3 + (ub s (usym FL s q2).2.1 3).2.2)
                        else if (usym FL s q2).2.2 = 18 then ((ub s (usym FL s q2).2.1 7).1, (ub s (usym FL s q2).2.1 7).2.1, 0, 11 + (ub s (usym FL s q2).2.1 7).2.2)
                        else (0, (usym FL s q2).2.1, (usym FL s q2).2.2, 1) := rfl
                    have hu0 : (usym FL s q2).1 ≠ 0 → (usym FL s q2).2.2 = 0 := fun hne => by
                      unfold usym at hne ⊢
                      by_cases a1 : (rd FL s q2).2.2 = 30
                      · rw [if_pos a1]
                      · rw [if_neg a1] at hne ⊢
                        by_cases a2 : (rd FL s q2).2.2 = 0
                        · rw [if_pos a2] at hne; exact absurd rfl hne
                        · rw [if_neg a2]
                    obtain ⟨⟨er, p1, y⟩, hus⟩ : ∃ z, usym FL s q2 = z := ⟨_, rfl⟩
                    rw [hus] at HSY hyin hrF hu0
                    have hy19 : y < 19 := by rw [HFL.out] at hyin; have hyin : y < 19 ∨ y = 0 := hyin; omega
                    have HRF : Hid (runF FL s q2 L = if er ≠ 0 then (er, q2, 0, 0) else if y = 16 then (if L = [] then (40, q2, 0, 0) else ((ub s p1 2).1, (ub s p1 2).2.1, L.getLastD 0, 3 + (ub s p1 2).2.2)) else if y = 17 then ((ub s p1 3).1, (ub s p1 3).2.1, 0, 3 + (ub s p1 3).2.2) else if y = 18 then ((ub s p1 7).1, (ub s p1 7).2.1, 0, 11 + (ub s p1 7).2.2) else (0, p1, y, 1)) := hrF
                    have HU0 : Hid (er ≠ 0 → y = 0) := hu0
                    have HSY : Hid (∀ _ : Unit, Calls Tryd.prog 31 #[.pointer (some ⟨r, 0, none⟩), .agg #[.slice (some ⟨g1 + 1, 0, none⟩) 19 19, .slice ya yn yc]] wr fun en w' => RNum K5 r s l most v wr (er, p1, y) en w') := fun _ => HSY
                    have HXX : Hid (L.length = m ∧ (∀ z ∈ L, z ≤ 15) ∧ RI wr K4 (.slice ao m cp) L ∧ DSt K4 r s l most v x.1 Wa wr q2 0 (x = toldE (toldL s p A B C) p A B ∧ wholeB (inN FL) = true ∧ lensF FL s NN (NN + 1 - L.length) q2 L = toldL s p A B C) ∧ (∀ k, K4 k → K5 k) ∧ (∀ W, UF K5 wr W → RI W K4 (.slice ao m cp) L) ∧ (L = [] ∨ ∃ g, ao = some ⟨g, 0, none⟩ ∧ K5 g ∧ wr.cell? ⟨g, L.length - 1, none⟩ = some (.int .i64 (L.getLastD 0 : Nat)))) := ⟨hLm, hL15, hRI, hD, k1, k3, k4⟩
                    have HE0 : Hid (rErr wr r = 0) := hD.1.err_
                    clear hLm hL15 hRI hD k1 k2 k3 k4 hcd hus hyin hrF hu0 hrlen f1 f2 f3 hxE hwh hlF HS
                    go_upto_block 4 with (first | (go_at_call 31; refine (HSY.out ()).mono ?_; rintro en wB ⟨rfl, hrB, huB⟩; have HB1 : Hid (RR wB K5 r s p1 l most er v ∧ UF K5 wr wB) := ⟨hrB, huB⟩; clear hrB huB))
                    go_cut [14, 15] (fun v14 v15 wd => ∃ (xx mm e1 p2 : Nat), v14 = .int .i64 (xx : Nat) ∧ v15 = .int .i64 (mm : Nat) ∧ xx ≤ 15 ∧ 1 ≤ mm ∧ mm ≤ 70000 ∧ Hid (RR wd K5 r s p2 l most e1 v ∧ UF K5 wr wd ∧ (e1 ≠ 0 → x.1 = e1) ∧ (e1 = 0 → runF FL s q2 L = (0, p2, xx, mm))))
                    case first =>
                      as_aux_lemma =>
                        by_cases y16 : y = 16
                        · subst y16
                          have her : er = 0 := by
                            rcases Nat.eq_zero_or_pos er with h | h
                            · exact h
                            · have := HU0.out (by omega); omega
                          subst her
                          have HRF2 : Hid (runF FL s q2 L = if L = [] then (40, q2, 0, 0) else ((ub s p1 2).1, (ub s p1 2).2.1, L.getLastD 0, 3 + (ub s p1 2).2.2)) := by show _ = _; rw [HRF.out, if_neg (by simp), if_pos rfl]
                          clear HRF HU0
                          by_cases hm0 : m = 0
                          · subst hm0
                            have HL0 : Hid (L = []) := List.length_eq_zero_iff.1 HXX.out.1
                            have HEN : Hid (∀ _ : Unit, Calls Tryd.prog 18 #[.pointer (some ⟨r, 0, none⟩), .int .i64 40] wB fun en w' => en = .returned (.tuple #[]) ∧ RR w' K5 r s p1 l most (if 0 = 0 then 40 else 0) v ∧ UF K5 wB w') := fun _ => rends_ok HB1.out.1 40 (by omega)
                            go_wp2_with (first | (go_at_call 18; refine (HEN.out ()).mono ?_; rintro en wC ⟨rfl, hrC, huC⟩; have HR1 : Hid (RR wC K5 r s p1 l most 40 v ∧ UF K5 wB wC) := ⟨hrC, huC⟩; clear hrC huC))
                            obtain ⟨t1, t2, t3, t4, t5, t6, t7⟩ := HXX.out
                            have hfu := HB1.out.2.trans HR1.out.2
                            refine ⟨⟨ao, cp, 0, rfl, Nat.zero_le _, p1, 40, L, t1, t2, t6 _ hfu, HR1.out.1.lessK t5, t4.2.1.trans (hfu.less t5), fun _ => ?_, fun h => by simp at h⟩, ?_⟩
                            · exact HRUN.out 40 q2 0 0 (by rw [HRF2.out, if_pos HL0.out]) (by simp)
                            · rw [HR1.out.1.err_, HE0.out, if_neg (by decide), if_pos rfl]; show 0 < NN + 1 - 0; omega
                          · have hm0i : ¬ (m : Int) = 0 := by omega
                            have hm0b : ((m : Int) == 0) = false := by simp; omega
                            have hLne : L ≠ [] := fun e => by have := HXX.out.1; rw [e] at this; exact hm0 this.symm
                            have HRF3 : Hid (runF FL s q2 L = ((ub s p1 2).1, (ub s p1 2).2.1, L.getLastD 0, 3 + (ub s p1 2).2.2)) := by show _ = _; rw [HRF2.out, if_neg hLne]
                            obtain ⟨g, hao, hKg, hcell⟩ : ∃ g, ao = some ⟨g, 0, none⟩ ∧ K5 g ∧ wr.cell? ⟨g, L.length - 1, none⟩ = some (.int .i64 (L.getLastD 0 : Nat)) := by
                              rcases HXX.out.2.2.2.2.2.2 with h | h
                              · exact absurd h hLne
                              · exact h
                            subst hao
                            have c5 : wB.cell? ⟨g, L.length - 1, none⟩ = some (.int .i64 (L.getLastD 0 : Nat)) := by rw [World.cell?_of_block (w := wr) (HB1.out.2.block g hKg)]; exact hcell
                            rw [HXX.out.1] at c5
                            obtain ⟨xx, hxx⟩ : ∃ z, L.getLastD 0 = z := ⟨_, rfl⟩
                            have hxx15 : xx ≤ 15 := by
                              rw [← hxx]
                              have hpos : 0 < L.length := List.length_pos_iff.2 hLne
                              have : L.getLastD 0 ∈ L := by
                                have e : L.getLastD 0 = L[L.length - 1]'(by omega) := by simp [List.getLastD_eq_getLast?, List.getLast?_eq_getElem?, List.getElem?_eq_getElem (show L.length - 1 < L.length by omega)]
                                rw [e]; exact List.getElem_mem _
                              exact HXX.out.2.1 _ this
                            rw [hxx] at c5 HRF3
                            obtain ⟨m1, hm1⟩ : ∃ z, m - 1 = z := ⟨_, rfl⟩
                            have hm1i : (m : Int) - 1 = (m1 : Int) := by omega
                            have hm1w : IntKind.i64.wrap (m1 : Int) = (m1 : Int) := wrapN m1 (by omega)
                            have hm1l : (m1 : Int) < (m : Int) := by omega
                            have hm10 : (0 : Int) ≤ (m1 : Int) := by omega
                            rw [hm1] at c5
                            have HBI := rbits_ok HB1.out.1 2 (by omega)
                            rw [rbF_ub] at HBI
                            have hlt16 := ub_lt16 (s := s) (p := p1) 2 (by omega)
                            obtain ⟨⟨e1, p2, z⟩, hub⟩ : ∃ u, ub s p1 2 = u := ⟨_, rfl⟩
                            rw [hub] at HBI HRF3 hlt16
                            have hlt16 : z < 65536 := hlt16
                            have HBI : Hid (∀ _ : Unit, Calls Tryd.prog 13 #[.pointer (some ⟨r, 0, none⟩), .int .i64 (2 : Nat)] wB fun en w' => RNum K5 r s l most v wB (e1, p2, z) en w') := fun _ => HBI
                            obtain ⟨mm, hmm⟩ : ∃ n, 3 + z = n := ⟨_, rfl⟩
                            have hmmi : (3 : Int) + (z : Int) = (mm : Int) := by omega
                            have hmmb : 1 ≤ mm ∧ mm ≤ 70000 := by omega
                            have HRF4 : Hid (runF FL s q2 L = (e1, p2, xx, mm)) := by show _ = _; rw [← hmm]; exact HRF3.out
                            clear hxx hm1 hub hmm HRF2 HRF3 hcell hLne
                            go_wp2_with (first | (go_at_call 13; refine (HBI.out ()).mono ?_; rintro en wC ⟨rfl, hrC, huC⟩; have HR1 : Hid (RR wC K5 r s p2 l most e1 v ∧ UF K5 wB wC) := ⟨hrC, huC⟩; clear hrC huC))
                            go_meet
                            case rel => exact ⟨xx, mm, e1, p2, rfl, by first | rfl | rw [← hmmi], hxx15, hmmb.1, hmmb.2, HR1.out.1, HB1.out.2.trans HR1.out.2, fun he => HRUN.out e1 p2 xx mm HRF4.out he, fun he => by rw [HRF4.out, he]⟩
                        · have y16i : ¬ (y : Int) = 16 := by omega
                          have y16b : ((y : Int) == 16) = false := by simp; omega
                          by_cases y17 : y = 17
                          · subst y17
                            have her : er = 0 := by
                              rcases Nat.eq_zero_or_pos er with h | h
                              · exact h
                              · have := HU0.out (by omega); omega
                            subst her
                            have HRF3 : Hid (runF FL s q2 L = ((ub s p1 3).1, (ub s p1 3).2.1, 0, 3 + (ub s p1 3).2.2)) := by show _ = _; rw [HRF.out]; rfl
                            have HBI := rbits_ok HB1.out.1 3 (by omega)
                            rw [rbF_ub] at HBI
                            have hlt16 := ub_lt16 (s := s) (p := p1) 3 (by omega)
                            obtain ⟨⟨e1, p2, z⟩, hub⟩ : ∃ u, ub s p1 3 = u := ⟨_, rfl⟩
                            rw [hub] at HBI HRF3 hlt16
                            have hlt16 : z < 65536 := hlt16
                            have HBI : Hid (∀ _ : Unit, Calls Tryd.prog 13 #[.pointer (some ⟨r, 0, none⟩), .int .i64 (3 : Nat)] wB fun en w' => RNum K5 r s l most v wB (e1, p2, z) en w') := fun _ => HBI
                            obtain ⟨mm, hmm⟩ : ∃ n, 3 + z = n := ⟨_, rfl⟩
                            have hmmi : (3 : Int) + (z : Int) = (mm : Int) := by omega
                            have hmmb : 1 ≤ mm ∧ mm ≤ 70000 := by omega
                            have HRF4 : Hid (runF FL s q2 L = (e1, p2, 0, mm)) := by show _ = _; rw [← hmm]; exact HRF3.out
                            clear hub hmm HRF HRF3 HU0
                            go_wp2_with (first | (go_at_call 13; refine (HBI.out ()).mono ?_; rintro en wC ⟨rfl, hrC, huC⟩; have HR1 : Hid (RR wC K5 r s p2 l most e1 v ∧ UF K5 wB wC) := ⟨hrC, huC⟩; clear hrC huC))
                            go_meet
                            case rel => exact ⟨0, mm, e1, p2, rfl, by first | rfl | rw [← hmmi], by omega, hmmb.1, hmmb.2, HR1.out.1, HB1.out.2.trans HR1.out.2, fun he => HRUN.out e1 p2 0 mm HRF4.out he, fun he => by rw [HRF4.out, he]⟩
                          · have y17i : ¬ (y : Int) = 17 := by omega
                            have y17b : ((y : Int) == 17) = false := by simp; omega
                            by_cases y18 : y = 18
                            · subst y18
                              have her : er = 0 := by
                                rcases Nat.eq_zero_or_pos er with h | h
                                · exact h
                                · have := HU0.out (by omega); omega
                              subst her
                              have HRF3 : Hid (runF FL s q2 L = ((ub s p1 7).1, (ub s p1 7).2.1, 0, 11 + (ub s p1 7).2.2)) := by show _ = _; rw [HRF.out]; rfl
                              have HBI := rbits_ok HB1.out.1 7 (by omega)
                              rw [rbF_ub] at HBI
                              have hlt16 := ub_lt16 (s := s) (p := p1) 7 (by omega)
                              obtain ⟨⟨e1, p2, z⟩, hub⟩ : ∃ u, ub s p1 7 = u := ⟨_, rfl⟩
                              rw [hub] at HBI HRF3 hlt16
                              have hlt16 : z < 65536 := hlt16
                              have HBI : Hid (∀ _ : Unit, Calls Tryd.prog 13 #[.pointer (some ⟨r, 0, none⟩), .int .i64 (7 : Nat)] wB fun en w' => RNum K5 r s l most v wB (e1, p2, z) en w') := fun _ => HBI
                              obtain ⟨mm, hmm⟩ : ∃ n, 11 + z = n := ⟨_, rfl⟩
                              have hmmi : (11 : Int) + (z : Int) = (mm : Int) := by omega
                              have hmmb : 1 ≤ mm ∧ mm ≤ 70000 := by omega
                              have HRF4 : Hid (runF FL s q2 L = (e1, p2, 0, mm)) := by show _ = _; rw [← hmm]; exact HRF3.out
                              clear hub hmm HRF HRF3 HU0
                              go_wp2_with (first | (go_at_call 13; refine (HBI.out ()).mono ?_; rintro en wC ⟨rfl, hrC, huC⟩; have HR1 : Hid (RR wC K5 r s p2 l most e1 v ∧ UF K5 wB wC) := ⟨hrC, huC⟩; clear hrC huC))
                              go_meet
                              case rel => exact ⟨0, mm, e1, p2, rfl, by first | rfl | rw [← hmmi], by omega, hmmb.1, hmmb.2, HR1.out.1, HB1.out.2.trans HR1.out.2, fun he => HRUN.out e1 p2 0 mm HRF4.out he, fun he => by rw [HRF4.out, he]⟩
                            · have y18i : ¬ (y : Int) = 18 := by omega
                              have y18b : ((y : Int) == 18) = false := by simp; omega
                              have HG : Hid ((er ≠ 0 → x.1 = er) ∧ (er = 0 → runF FL s q2 L = (0, p1, y, 1))) := ⟨fun hne => HRUN.out er q2 0 0 (by rw [HRF.out, if_pos hne]) hne, fun he => by rw [HRF.out, if_neg (by omega), if_neg y16, if_neg y17, if_neg y18]⟩
                              have hy15 : y ≤ 15 := by omega
                              go_wp2_with fail
                              go_meet
                              case rel => exact ⟨y, 1, er, p1, rfl, rfl, hy15, by omega, by omega, HB1.out.1, HB1.out.2, HG.out.1, HG.out.2⟩
                    case rest =>
                      obtain ⟨xx, mm, e1, p2, rfl, rfl, hxx, hmm1, hmm2, HR⟩ := hcut
                      obtain ⟨wD, hwD⟩ : ∃ wD, wD = wc := ⟨_, rfl⟩
                      subst hwD
                      clear HRF HU0 HB1 HSY
                      obtain ⟨S, hS⟩ : ∃ S, m + mm = S := ⟨_, rfl⟩
                      have hSi : (m : Int) + (mm : Int) = (S : Int) := by omega
                      have HSS : Hid (m + mm = S) := hS
                      clear hS
                      by_cases hov : NN < S
                      · have hovi : (NN : Int) < (S : Int) := by omega
                        have HEN : Hid (∀ _ : Unit, Calls Tryd.prog 18 #[.pointer (some ⟨r, 0, none⟩), .int .i64 40] wD fun en w' => en = .returned (.tuple #[]) ∧ RR w' K5 r s p2 l most (if e1 = 0 then 40 else e1) v ∧ UF K5 wD w') := fun _ => rends_ok HR.out.1 40 (by omega)
                        go_wp2_with (first | (go_at_call 18; refine (HEN.out ()).mono ?_; rintro en wE ⟨rfl, hrC, huC⟩; have HR1 : Hid (RR wE K5 r s p2 l most (if e1 = 0 then 40 else e1) v ∧ UF K5 wD wE) := ⟨hrC, huC⟩; clear hrC huC))
                        obtain ⟨t1, t2, t3, t4, t5, t6, t7⟩ := HXX.out
                        have hfu := HR.out.2.1.trans HR1.out.2
                        have hne : (if e1 = 0 then 40 else e1) ≠ 0 := by split <;> omega
                        refine ⟨⟨ao, cp, m, rfl, by omega, p2, _, L, t1, t2, t6 _ hfu, HR1.out.1.lessK t5, t4.2.1.trans (hfu.less t5), fun _ => ?_, fun h => absurd h hne⟩, ?_⟩
                        · by_cases he : e1 = 0
                          · rw [if_pos he]
                            obtain ⟨u1, u2, u3⟩ := t4.2.2.2 rfl
                            rw [u1, ← u3, lens_full (by omega) (HR.out.2.2.2 he) (by have := HSS.out; omega)]
                            rfl
                          · rw [if_neg he]; exact HR.out.2.2.1 he
                        · rw [HR1.out.1.err_, HE0.out, if_neg hne, if_pos rfl]; simp [sliceLen]; omega
                      · have hovi : ¬ (NN : Int) < (S : Int) := by omega
                        have HTI : Hid (∀ _ : Unit, Calls Tryd.prog 29 #[.slice ao m cp, .int .i64 (xx : Nat), .int .i64 (mm : Nat)] wD fun en w' => ∃ v', en = .returned v' ∧ RI w' (fun k => (K4 k ∨ k = r) ∨ v.ownBlock = some k) v' (L ++ List.replicate mm xx) ∧ UF (fun k => (K4 k ∨ k = r) ∨ v.ownBlock = some k) wD w') := fun _ => rtimes_ok L (.slice ao m cp) xx mm ((HXX.out.2.2.2.2.2.1 _ HR.out.2.1).apart (HR.out.1.lessK HXX.out.2.2.2.2.1)) (by have := HXX.out.1; omega) (by omega)
                        go_wp2_with (first | (go_at_call 29; refine (HTI.out ()).mono ?_; rintro en wE ⟨v', rfl, hri, huC⟩; have HR1 : Hid (RI wE (fun k => (K4 k ∨ k = r) ∨ v.ownBlock = some k) v' (L ++ List.replicate mm xx) ∧ UF (fun k => (K4 k ∨ k = r) ∨ v.ownBlock = some k) wD wE) := ⟨hri, huC⟩; clear hri huC))
                        obtain ⟨t1, t2, t3, t4, t5, t6, t7⟩ := HXX.out
                        have hlen : (L ++ List.replicate mm xx).length = S := by rw [List.length_append, List.length_replicate, t1, HSS.out]
                        obtain ⟨ao2, cp2, hv2⟩ := HR1.out.1.form
                        rw [hlen] at hv2
                        subst hv2
                        have hrr : RR wE K4 r s p2 l most e1 v := (HR.out.1.lessK t5).held HR1.out.2 (.inl (.inr rfl)) (fun q hq => .inr hq)
                        refine ⟨⟨ao2, cp2, S, rfl, by omega, p2, e1, L ++ List.replicate mm xx, hlen, ?_, HR1.out.1.lessK (fun k hk => .inl (.inl hk)), hrr, t4.2.1.trans ((HR.out.2.1.less t5).trans (HR1.out.2.less (fun k hk => .inl (.inl hk)))), HR.out.2.2.1, fun he => ?_⟩, ?_⟩
                        · intro z hz
                          rw [List.mem_append] at hz
                          rcases hz with h | h
                          · exact t2 z h
                          · rw [(List.mem_replicate.1 h).2]; exact hxx
                        · obtain ⟨u1, u2, u3⟩ := t4.2.2.2 rfl
                          refine ⟨u1, u2, ?_⟩
                          rw [← lens_more (by rw [HFL.out]; omega) (by omega) (HR.out.2.2.2 he) (by have := HSS.out; omega)]
                          exact u3
                        · rw [hrr.err_, HE0.out, if_pos rfl]
                          have := HSS.out
                          split <;> simp [sliceLen] <;> omega
                  · have hei : ¬ (e : Int) = 0 := by omega
                    have heb : ((e : Int) == 0) = false := by simp; omega
                    have HR : Hid (L.length = m ∧ (∀ z ∈ L, z ≤ 15) ∧ RI wr K4 (.slice ao m cp) L ∧ DSt K4 r s l most v x.1 Wa wr q2 e (x = toldE (toldL s p A B C) p A B ∧ m = NN ∧ toldL s p A B C = (0, q2, L))) := ⟨hLm, hL15, hRI, hD.1, hD.2.1, hD.2.2.1, fun h => absurd h he⟩
                    clear hLm hL15 hRI hD HS
                    go_wp2_with fail
                    go_meet
                    case rel => exact ⟨ao, cp, m, rfl, hm, q2, e, L, HR.out⟩
                · have hlti : ¬ (m : Int) < (NN : Int) := by omega
                  obtain rfl : m = NN := by omega
                  have HR : Hid (L.length = m ∧ (∀ z ∈ L, z ≤ 15) ∧ RI wr K4 (.slice ao m cp) L ∧ DSt K4 r s l most v x.1 Wa wr q2 e (x = toldE (toldL s p A B C) p A B ∧ m = m ∧ toldL s p A B C = (0, q2, L))) := ⟨hLm, hL15, hRI, hD.1, hD.2.1, hD.2.2.1, fun h => by
                    obtain ⟨u1, u2, u3⟩ := hD.2.2.2 h
                    exact ⟨u1, rfl, by rw [← u3]; exact lens_end hLm⟩⟩
                  clear hLm hL15 hRI hD HS
                  go_wp2_with fail
                  go_meet
                  case rel =>
                    obtain ⟨z1, z2, z3, z4⟩ := HR.out
                    exact ⟨ao, cp, m, rfl, hm, q2, e, L, z1, z2, z3, z4.1, z4.2.1, z4.2.2.1, fun h => ⟨(z4.2.2.2 h).1, rfl, (z4.2.2.2 h).2.2⟩⟩
          case rest =>
            obtain ⟨ao, cp, m, rfl, hm, HS⟩ := hcut
            obtain ⟨wL, hwL⟩ : ∃ wL, wL = wc := ⟨_, rfl⟩
            subst hwL
            clear HSA
            obtain ⟨q4, e6, L, hLm, hL15, hRI, hD⟩ := HS.out
            have d4 := hD.1.cells.2.2.2.2
            obtain ⟨hb1, hb2⟩ := HH.out wL (HK4.out.2.trans (hD.2.1.less HK4.out.1))
            obtain ⟨rc0, rc1, rf0, rf1⟩ := code_blk hb1
            obtain ⟨rc2, rc3, rf2, rf3⟩ := code_blk hb2
            have HUL : Hid (UF K w wL) := HU0.out.1.trans ((HK4.out.2.trans (hD.2.1.less HK4.out.1)).less HK.out)
            by_cases he : e6 = 0
            · subst he
              obtain ⟨hxE, hmN, hlr⟩ := hD.2.2.2 rfl
              obtain ⟨g, hao, hcap, hgb⟩ : ∃ g, ao = some ⟨g, 0, none⟩ ∧ m ≤ cp ∧ (∃ cur, wL.heap[g]? = some (.cells cur 3 (0, 0))) := by
                rcases hRI.own.2 with ⟨e, _⟩ | ⟨g', cap', cur, e, _, a3, a, _⟩
                · cases e; omega
                · rw [hLm] at a; cases e; exact ⟨g', rfl, a, cur, a3⟩
              subst hao
              have hcells : ∀ i, i < m → wL.cell? ⟨g, i, none⟩ = some (.int .i64 (L.getD i 0 : Nat)) := fun i hi => by
                obtain ⟨r1, _⟩ := hRI.row
                rcases r1 with e | ⟨b, off, e, hlt, hc⟩
                · have : (inN L).length = 0 := by rw [e]; rfl
                  rw [inN_length, hLm] at this; omega
                · cases e
                  have := hc i (by rw [inN_length, hLm]; exact hi)
                  rw [inN_get, Nat.zero_add] at this
                  exact this
              obtain ⟨SY, hSY⟩ : ∃ n, 257 + A = n := ⟨_, rfl⟩
              obtain ⟨DI, hDI⟩ : ∃ n, 1 + B = n := ⟨_, rfl⟩
              have hSYi : (257 : Int) + (A : Int) = (SY : Int) := by omega
              have hmD : m = SY + DI := by have := HNN.out; omega
              have f1' : (SY : Int) ≤ (cp : Int) := by omega
              have f2' : (SY : Int) ≤ (m : Int) := by omega
              have f3' : (m : Int) ≤ (cp : Int) := by omega
              have f4' : ¬ cp = SY := by omega
              have f5' : (256 : Int) < (SY : Int) := by omega
              have f6' : 256 < SY := by omega
              have f7' : SY ≤ 288 ∧ DI ≤ 32 ∧ 1 ≤ DI := by omega
              have hND : m - SY = DI := by omega
              have HNM : Hid (257 + A = SY ∧ 1 + B = DI ∧ m = SY + DI) := ⟨hSY, hDI, hmD⟩
              have HLL : Hid (L.length = m ∧ (∀ z ∈ L, z ≤ 15) ∧ x = toldE (0, q4, L) p A B) := ⟨hLm, hL15, by rw [hxE, hlr]⟩
              have HRL : Hid (RR wL K4 r s q4 l most 0 v ∧ UF K4 Wa wL ∧ ∃ cur, wL.heap[g]? = some (.cells cur 3 (0, 0))) := ⟨hD.1, hD.2.1, hgb⟩
              have HCE : Hid (∀ i, i < m → wL.cell? ⟨g, i, none⟩ = some (.int .i64 (L.getD i 0 : Nat))) := hcells
              clear hRI hD hxE hlr hLm hL15 hcells hgb hSY hDI HS
              go_upto_region 37 with fail
              clear d4
              go_quiet (fail)
              subst hmN
              rw [hND]
              clear hmD hND
              obtain ⟨wM, hwM⟩ : ∃ x, wL.drewN nq = x := ⟨_, rfl⟩
              have HCM : Hid (∀ i, i < m → wM.cell? ⟨g, i, none⟩ = some (.int .i64 (L.getD i 0 : Nat))) := by rw [← hwM]; exact HCE.out
              have HRM : Hid (RR wM K4 r s q4 l most 0 v ∧ UF K w wM ∧ ∃ cur, wM.heap[g]? = some (.cells cur 3 (0, 0))) := by rw [← hwM]; exact ⟨HRL.out.1.drewN nq, HUL.out.trans (UF.drewN _ _ nq), HRL.out.2.2⟩
              have HBM : Hid (wM.heap[w.heap.size]? = some (.cells #[Value.slice none 0 0, Value.slice none 0 0] 43) ∧ wM.heap[w.heap.size + 1]? = some (.cells #[Value.slice none 0 0, Value.slice none 0 0] 43)) := by rw [← hwM]; exact ⟨hb1, hb2⟩
              rw [hwM]
              clear hwM HCE HRL HUL hb1 hb2 rc0 rc1 rf0 rf1 rc2 rc3 rf2 rf3 HC f1' f2' f3' f4'
              obtain ⟨cc, hcc⟩ : ∃ cc, (fun i => (L.drop SY).getD i 0) = cc := ⟨_, rfl⟩
              have hcc15 : ∀ i, cc i ≤ 15 := fun i => by
                rw [← hcc]; show (L.drop SY).getD i 0 ≤ 15
                rw [List.getD_eq_getElem?_getD]
                cases he : (L.drop SY)[i]? with
                | none => simp
                | some z => exact HLL.out.2.1 z (List.mem_of_mem_drop (List.mem_of_getElem? he))
              have HCC : Hid ((∀ i, cc i ≤ 15) ∧ (fun i => (L.drop SY).getD i 0) = cc ∧ ∀ i, i < DI → wM.cell? ⟨g, SY + i, none⟩ = some (.int .i64 (cc i : Nat))) := ⟨hcc15, hcc, fun i hi => by
                rw [HCM.out (SY + i) (by have := HNM.out.2.2; omega), ← hcc]
                simp [List.getElem?_drop]⟩
              clear hcc hcc15
              go_wp2_with fail
              go_loopw [18, 19] (fun v18 v19 wr => ∃ k qs : Nat, v18 = .int .i64 qs ∧ v19 = .int .i64 k ∧ k ≤ DI ∧ qs ≤ 15000 ∧ wr = wM ∧ Hid (qs = sumTo cc k)) (fun _ v19 _ => DI - (intOf v19).toNat)
              case atStart => exact ⟨0, 0, rfl, rfl, Nat.zero_le _, by omega, rfl, rfl⟩
              case round =>
                obtain ⟨k, qs, rfl, rfl, hk, hqs, rfl, HQ⟩ := hrel
                by_cases hlt : k < DI
                · have hlti : (k : Int) < (DI : Int) := by omega
                  have c1 := HCC.out.2.2 k hlt
                  obtain ⟨z, hz⟩ : ∃ z, cc k = z := ⟨_, rfl⟩
                  rw [hz] at c1
                  have hz15 : z ≤ 15 := by rw [← hz]; exact HCC.out.1 k
                  have HN : Hid (qs + z = sumTo cc (k + 1) ∧ qs + z ≤ 15000) := ⟨by rw [HQ.out, ← hz]; rfl, by have := sumTo_le cc HCC.out.1 (k + 1); rw [show sumTo cc (k + 1) = qs + z by rw [HQ.out, ← hz]; rfl] at this; omega⟩
                  clear hz
                  go_wp2
                  exact ⟨⟨k + 1, qs + z, by go_num, by go_num, by omega, HN.out.2, (by first | rfl | trivial), HN.out.1⟩, by simp [intOf]; omega⟩
                · have hlti : ¬ (k : Int) < (DI : Int) := by omega
                  obtain rfl : k = DI := by omega
                  obtain ⟨wM, hwM⟩ : ∃ wM, wM = wr := ⟨_, rfl⟩
                  subst hwM
                  obtain ⟨Y, hY⟩ : ∃ y, L.getD 256 0 = y := ⟨_, rfl⟩
                  have c256 := HCM.out 256 (by have := HNM.out; omega)
                  rw [hY] at c256
                  obtain ⟨qP, hqP⟩ : ∃ q, wholeB (inN (L.take SY)) = q := ⟨_, rfl⟩
                  obtain ⟨qQ, hqQ⟩ : ∃ q, wholeB (inN (L.drop SY)) = q := ⟨_, rfl⟩
                  have lt1 : (L.take SY).length = SY := by rw [List.length_take, HLL.out.1]; have := HNM.out; omega
                  have ld1 : (L.drop SY).length = k := by rw [List.length_drop, HLL.out.1]; have := HNM.out; omega
                  have hgM : g < wM.heap.size := by obtain ⟨cur, hc⟩ := HRM.out.2.2; exact lt_of_block hc
                  have rowP : IRow wM (some ⟨g, 0, none⟩) (inN (L.take SY)) := .inr ⟨g, 0, rfl, hgM, fun i hi => by
                    rw [inN_length, lt1] at hi
                    rw [Nat.zero_add, HCM.out i (by have := HNM.out; omega), inN_get]
                    congr 3
                    rw [List.getD_eq_getElem?_getD, List.getD_eq_getElem?_getD, List.getElem?_take_of_lt hi]⟩
                  have rowQ : IRow wM (some ⟨g, SY, none⟩) (inN (L.drop SY)) := .inr ⟨g, SY, rfl, hgM, fun i hi => by
                    rw [inN_length, ld1] at hi
                    rw [HCM.out (SY + i) (by have := HNM.out; omega), inN_get]
                    congr 3
                    rw [List.getD_eq_getElem?_getD, List.getD_eq_getElem?_getD, List.getElem?_drop]⟩
                  have HFP : Hid (∀ _ : Unit, Calls Tryd.prog 33 #[.slice (some ⟨g, 0, none⟩) SY cp] wM fun e w' => e = .returned (.bool qP) ∧ w' = wM) := fun _ => by rw [← hqP]; exact rfull_ok _ _ cp SY wM (by rw [inN_length, lt1]) rowP (by omega)
                  have HFQ : Hid (∀ _ : Unit, Calls Tryd.prog 33 #[.slice (some ⟨g, SY, none⟩) k (cp - SY)] wM fun e w' => e = .returned (.bool qQ) ∧ w' = wM) := fun _ => by rw [← hqQ]; exact rfull_ok _ _ (cp - SY) k wM (by rw [inN_length, ld1]) rowQ (by omega)
                  have HFA : Hid (L.getD 256 0 = Y ∧ wholeB (inN (L.take SY)) = qP ∧ wholeB (inN (L.drop SY)) = qQ ∧ (L.take SY).length = SY ∧ (L.drop SY).length = k ∧ IRow wM (some ⟨g, 0, none⟩) (inN (L.take SY)) ∧ IRow wM (some ⟨g, SY, none⟩) (inN (L.drop SY))) := ⟨hY, hqP, hqQ, lt1, ld1, rowP, rowQ⟩
                  obtain ⟨tt, htt⟩ : ∃ t, (decide (Y = 0) || !qP || (!qQ && decide (1 < qs))) = t := ⟨_, rfl⟩
                  have HTT : Hid ((decide (Y = 0) || !qP || (!qQ && decide (1 < qs))) = tt) := htt
                  clear hY hqP hqQ lt1 ld1 rowP rowQ htt HCM
                  go_upto_region 43 with fail
                  go_cut [169] (fun v169 wd => v169 = .bool tt ∧ wd = wM)
                  case first =>
                    as_aux_lemma =>
                      by_cases hY0 : Y = 0
                      · subst hY0
                        have HBt : Hid (tt = true) := by show tt = true; rw [← HTT.out]; rfl
                        go_wp2_with fail
                        go_meet
                        case rel => exact ⟨by rw [HBt.out], rfl⟩
                      · have y1 : ¬ (Y : Int) = 0 := by omega
                        have y2 : ((Y : Int) == 0) = false := by simp; omega
                        cases qP with
                        | false =>
                          have HBt : Hid (tt = true) := by show tt = true; rw [← HTT.out]; simp
                          go_wp2_with (go_at_call_of 33 (Value.slice (some ⟨g, 0, none⟩) SY cp); refine (HFP.out ()).mono ?_; rintro en wf ⟨rfl, hwf⟩; obtain rfl := hwf.symm; clear hwf)
                          go_meet
                          case rel => exact ⟨by rw [HBt.out], rfl⟩
                        | true =>
                          cases qQ with
                          | true =>
                            have HBt : Hid (tt = false) := by show tt = false; rw [← HTT.out]; simp [hY0]
                            go_wp2_with (first
                              | (go_at_call_of 33 (Value.slice (some ⟨g, 0, none⟩) SY cp); refine (HFP.out ()).mono ?_; rintro en wf ⟨rfl, hwf⟩; obtain rfl := hwf.symm; clear hwf)
                              | (go_at_call_of 33 (Value.slice (some ⟨g, SY, none⟩) k (cp - SY)); refine (HFQ.out ()).mono ?_; rintro en wf ⟨rfl, hwf⟩; obtain rfl := hwf.symm; clear hwf))
                            go_meet
                            case rel => exact ⟨by rw [HBt.out], rfl⟩
                          | false =>
                            by_cases h1 : 1 < qs
                            · have h1i : (1 : Int) < (qs : Int) := by omega
                              have HBt : Hid (tt = true) := by show tt = true; rw [← HTT.out]; simp [h1]
                              go_wp2_with (first
                                | (go_at_call_of 33 (Value.slice (some ⟨g, 0, none⟩) SY cp); refine (HFP.out ()).mono ?_; rintro en wf ⟨rfl, hwf⟩; obtain rfl := hwf.symm; clear hwf)
                                | (go_at_call_of 33 (Value.slice (some ⟨g, SY, none⟩) k (cp - SY)); refine (HFQ.out ()).mono ?_; rintro en wf ⟨rfl, hwf⟩; obtain rfl := hwf.symm; clear hwf))
                              go_meet
                              case rel => exact ⟨by rw [HBt.out], rfl⟩
                            · have h1i : ¬ (1 : Int) < (qs : Int) := by omega
                              have HBt : Hid (tt = false) := by show tt = false; rw [← HTT.out, decide_eq_false hY0, decide_eq_false h1]; rfl
                              go_wp2_with (first
                                | (go_at_call_of 33 (Value.slice (some ⟨g, 0, none⟩) SY cp); refine (HFP.out ()).mono ?_; rintro en wf ⟨rfl, hwf⟩; obtain rfl := hwf.symm; clear hwf)
                                | (go_at_call_of 33 (Value.slice (some ⟨g, SY, none⟩) k (cp - SY)); refine (HFQ.out ()).mono ?_; rintro en wf ⟨rfl, hwf⟩; obtain rfl := hwf.symm; clear hwf))
                              go_meet
                              case rel => exact ⟨by rw [HBt.out]; first | (rw [decide_eq_false h1]; done) | (rw [decide_eq_false h1i]; done) | (simp; omega) | simp [h1], rfl⟩
                  case rest =>
                    obtain ⟨rfl, hwc⟩ := hcut
                    obtain rfl := hwc.symm
                    clear HFP HFQ c256
                    obtain ⟨rc0, rc1, rf0, rf1⟩ := code_blk HBM.out.1
                    obtain ⟨rc2, rc3, rf2, rf3⟩ := code_blk HBM.out.2
                    cases tt with
                    | true =>
                      have HX40 : Hid (x.1 = 40) := by
                        show x.1 = 40
                        rw [HLL.out.2.2]
                        obtain ⟨n1, n2, n3⟩ := HNM.out
                        obtain ⟨a1, a2, a3, _⟩ := HFA.out
                        refine toldE_bad ?_
                        rw [n1, n2, a1, a2, a3, HCC.out.2.1, ← HQ.out]
                        have := HTT.out
                        simp at this
                        rcases this with (h | h) | h
                        · exact .inl h
                        · exact .inr (.inl h)
                        · exact .inr (.inr h)
                      have d4 := HRM.out.1.cells.2.2.2.2
                      have f4 := HRM.out.1.free 4 (by omega)
                      go_wp2
                      refine bodyPost_ret (v := .tuple #[.agg #[.slice none 0 0, .slice none 0 0], .agg #[.slice none 0 0, .slice none 0 0]]) ?_ rfl ?_
                      · rw [results_two rfl]
                        go_simp
                      refine dyn_bad (HRM.out.1.setE 40) (by decide) HX40.out (HRM.out.2.1.trans ((HRM.out.1.uf_set 4 _).less (fun k hk => HK4.out.1 k (HK.out k hk)))) HU0.out.2 (fun k hk => HK4.out.1 k (HK.out k hk)) (HK4.out.1 _ HKH.out.1) (HK4.out.1 _ HKH.out.2) ?_ ?_ ?_ ?_ ?_
                      · rfl
                      · rfl
                      · rfl
                      · simp
                      · intro k h2 h3 h1
                        rw [Below.heap_setCell _ _ _ _ h3, Below.heap_setCell _ _ _ _ h3, Below.heap_setCell _ _ _ _ h2, Below.heap_setCell _ _ _ _ h2]
                        rfl
                    | false =>
                      have HGD : Hid (Y ≠ 0 ∧ qP = true ∧ (qQ = true ∨ qs ≤ 1)) := by
                        have := HTT.out
                        simp at this
                        obtain ⟨⟨h1, h2⟩, h3⟩ := this
                        refine ⟨h1, h2, ?_⟩
                        cases qQ with
                        | true => exact .inl rfl
                        | false => exact .inr (by have := h3 rfl; omega)
                      have HXG : Hid (x = (0, q4, L.take SY, L.drop SY) ∧ (∀ i, (L.take SY).getD i 0 ≤ 15) ∧ (∀ i, (L.drop SY).getD i 0 ≤ 15) ∧ ew (L.take SY) 15 ≤ 32768 ∧ ew (L.drop SY) 15 ≤ 32768 ∧ zer (L.take SY) (L.take SY).length = false) := by
                        obtain ⟨n1, n2, n3⟩ := HNM.out
                        obtain ⟨a1, a2, a3, a4, a5, _⟩ := HFA.out
                        obtain ⟨g1, g2, g3⟩ := HGD.out
                        have hP : wholeB (inN (L.take SY)) = true := by rw [a2]; exact g2
                        have h15 : ∀ x ∈ L.drop SY, x ≤ 15 := fun x hx => HLL.out.2.1 x (List.mem_of_mem_drop hx)
                        refine ⟨?_, (whole_facts hP).2.2, ?_, by have := (whole_facts hP).2.1; omega, ?_, whole_zer hP⟩
                        · rw [HLL.out.2.2]
                          have := toldE_good (p := p) (q4 := q4) (A := A) (B := B) (L := L) (by rw [a1]; exact g1) (by rw [n1]; exact hP) (by
                            rw [n1, n2, a3, HCC.out.2.1, ← HQ.out]; exact g3)
                          rw [n1] at this
                          exact this
                        · intro i
                          have := congrFun HCC.out.2.1 i
                          have h2 := HCC.out.1 i
                          rw [← this] at h2; exact h2
                        · rcases g3 with h | h
                          · have := (whole_facts (ns := L.drop SY) (by rw [a3]; exact h)).2.1; omega
                          · refine lone_code h15 ?_
                            rw [a5, HCC.out.2.1, ← HQ.out]; exact h
                      have HM1 : Hid (∀ _ : Unit, Calls Tryd.prog 30 #[.slice (some ⟨g, 0, none⟩) SY cp] wM fun e w' => MadeEnd wM (some ⟨g, 0, none⟩) SY cp (inN (L.take SY)) e w') := fun _ => rmade_ok _ _ cp SY wM (by rw [inN_length, HFA.out.2.2.2.1]) HFA.out.2.2.2.2.2.1 (by omega)
                      go_wp2_with fail
                      refine (HM1.out ()).mono ?_
                      intro en w10 hm1
                      obtain ⟨K7, hK7⟩ : ∃ K7 : Nat → Nat → Prop, (fun n k => k = g ∨ K k ∨ (wM.heap.size ≤ k ∧ k < n)) = K7 := ⟨_, rfl⟩
                      have hK7i : ∀ n k, K7 n k ↔ (k = g ∨ K k ∨ (wM.heap.size ≤ k ∧ k < n)) := fun n k => by rw [← hK7]
                      have hm1' : MadeEnd wM (some ⟨g, 0, none⟩) (L.take SY).length cp (inN (L.take SY)) en w10 := by rw [HFA.out.2.2.2.1]; exact hm1
                      obtain ⟨hb10, cv, rfl, hc10⟩ := hm1'.code (K := K7 w10.heap.size) HFA.out.2.2.2.2.2.1 (fun b o e => by cases e; exact (hK7i _ _).2 (.inl rfl)) HXG.out.2.1 (by rw [HFA.out.2.2.2.1]; omega) HXG.out.2.2.2.1 (fun k h1 h2 => (hK7i _ _).2 (.inr (.inr ⟨h1, h2⟩)))
                      obtain ⟨x1, x2, x3, x4, hcv⟩ : ∃ x1 x2 x3 x4, cv = .agg #[.slice x1 SY x2, .slice x3 SY x4] := by
                        obtain ⟨x1, x2, x3, x4, e, -⟩ := hc10
                        rw [HFA.out.2.2.2.1] at e
                        exact ⟨x1, x2, x3, x4, e⟩
                      subst hcv
                      have HC10 : Hid (Below wM.heap.size wM w10 ∧ CodeAt w10 (K7 w10.heap.size) (.agg #[.slice x1 SY x2, .slice x3 SY x4]) (L.take SY) ∧ (∀ n k, K7 n k ↔ (k = g ∨ K k ∨ (wM.heap.size ≤ k ∧ k < n))) ∧ IRow w10 (some ⟨g, SY, none⟩) (inN (L.drop SY))) := ⟨hb10, hc10, hK7i, by
                        rcases HFA.out.2.2.2.2.2.2 with e | ⟨b, off, e, hlt, h⟩
                        · exact .inl e
                        · refine .inr ⟨b, off, e, Nat.lt_of_lt_of_le hlt hb10.size, fun i hi => ?_⟩
                          rw [← h i hi]; simp only [World.cell?, hb10.block b hlt]⟩
                      have HM2 : Hid (∀ _ : Unit, Calls Tryd.prog 30 #[.slice (some ⟨g, SY, none⟩) k (cp - SY)] w10 fun e w' => MadeEnd w10 (some ⟨g, SY, none⟩) k (cp - SY) (inN (L.drop SY)) e w') := fun _ => rmade_ok _ _ (cp - SY) k w10 (by rw [inN_length, HFA.out.2.2.2.2.1]) HC10.out.2.2.2 (by omega)
                      clear hm1 hm1' hb10 hc10 hK7 hK7i HM1
                      go_wp2_with fail
                      refine (HM2.out ()).mono ?_
                      intro en w11 hm2
                      have hm2' : MadeEnd w10 (some ⟨g, SY, none⟩) (L.drop SY).length (cp - SY) (inN (L.drop SY)) en w11 := by rw [HFA.out.2.2.2.2.1]; exact hm2
                      have hs10 := HC10.out.1.size
                      obtain ⟨hb11, dv, rfl, hc11⟩ := hm2'.code (K := K7 w11.heap.size) HC10.out.2.2.2 (fun b o e => by cases e; exact (HC10.out.2.2.1 _ _).2 (.inl rfl)) HXG.out.2.2.1 (by rw [HFA.out.2.2.2.2.1]; omega) HXG.out.2.2.2.2.1 (fun k h1 h2 => (HC10.out.2.2.1 _ _).2 (.inr (.inr ⟨by omega, h2⟩)))
                      obtain ⟨y1, y2, y3, y4, hdv⟩ : ∃ x1 x2 x3 x4, dv = .agg #[.slice x1 k x2, .slice x3 k x4] := by
                        obtain ⟨x1, x2, x3, x4, e, -⟩ := hc11
                        rw [HFA.out.2.2.2.2.1] at e
                        exact ⟨x1, x2, x3, x4, e⟩
                      subst hdv
                      have b11 : Below wM.heap.size wM w11 := HC10.out.1.trans (hb11.mono hs10)
                      have hs11 := hb11.size
                      have hgM : g < wM.heap.size := by obtain ⟨cur, hc⟩ := HRM.out.2.2; exact lt_of_block hc
                      have hKM : ∀ k, K k → k < wM.heap.size := fun k hk => HRM.out.1.kb k (HK4.out.1 k (HK.out k hk))
                      have hH1 : w.heap.size < wM.heap.size := lt_of_block HBM.out.1
                      have hH2 : w.heap.size + 1 < wM.heap.size := lt_of_block HBM.out.2
                      have hgne : g ≠ w.heap.size ∧ g ≠ w.heap.size + 1 := by
                        obtain ⟨cur, hc⟩ := HRM.out.2.2
                        refine ⟨fun e => ?_, fun e => ?_⟩
                        · have := HBM.out.1; rw [← e, hc] at this; simp at this
                        · have := HBM.out.2; rw [← e, hc] at this; simp at this
                      have HEND : Hid (∀ W : World, W.os = w11.os → W.tape = w11.tape → W.output = w11.output → w11.heap.size ≤ W.heap.size → (∀ k, k ≠ w.heap.size → k ≠ w.heap.size + 1 → k < w11.heap.size → W.heap[k]? = w11.heap[k]?) → DynEnd K r s l most v w x (.returned (.tuple #[.agg #[.slice x1 SY x2, .slice x3 SY x4], .agg #[.slice y1 k y2, .slice y3 k y4]])) W) := fun W go gt gp gs hk => by
                        obtain ⟨cur, hcur⟩ := HRM.out.2.2
                        have hrg := HRM.out.1.addInt hcur
                        have hr11 := (hrg.newer b11).lessK (K := K7 w11.heap.size) (fun k hk => by
                          rcases (HC10.out.2.2.1 _ _).1 hk with h | h | h
                          · exact .inl (.inr h)
                          · exact .inl (.inl (HK4.out.1 k (HK.out k h)))
                          · exact .inr h)
                        have hKin : ∀ k, K7 w11.heap.size k → k ≠ w.heap.size ∧ k ≠ w.heap.size + 1 ∧ k < w11.heap.size := fun k hk => by
                          rcases (HC10.out.2.2.1 _ _).1 hk with h | h | h
                          · rw [h]; exact ⟨hgne.1, hgne.2, by omega⟩
                          · have := HU0.out.2 k h; have := hKM k h; exact ⟨by omega, by omega, by omega⟩
                          · exact ⟨by omega, by omega, h.2⟩
                        have hUW : UF (K7 w11.heap.size) w11 W := ⟨go, gt, gp, gs, fun k hk7 => by obtain ⟨a, b, c⟩ := hKin k hk7; exact hk k a b c⟩
                        have hne : ∀ k, K4 k → ¬ (k = r ∨ v.ownBlock = some k) := fun k hk => by
                          rintro (rfl | h)
                          · exact HRM.out.1.kr hk
                          · exact HRM.out.1.ko k h hk
                        have hrW : RR W (K7 w11.heap.size) r s q4 l most 0 v := hr11.held (K3 := fun k => k = r ∨ v.ownBlock = some k) ⟨go, gt, gp, gs, fun k hk' => hk k (fun e => hne k (by rw [e]; exact HK4.out.1 _ HKH.out.1) hk') (fun e => hne k (by rw [e]; exact HK4.out.1 _ HKH.out.2) hk') (by
                          rcases hk' with rfl | h
                          · exact lt_of_block hr11.blk
                          · obtain ⟨_, _, e⟩ := hr11.own_blk h; exact lt_of_block e)⟩ (.inl rfl) (fun q hq => .inr hq)
                        refine ⟨(HRM.out.2.1.trans (UF.below b11 hKM)).trans (hUW.less (fun k hk => (HC10.out.2.2.1 _ _).2 (.inr (.inl hk)))), .inr ?_⟩
                        rw [HXG.out.1]
                        refine ⟨rfl, _, _, K7 w11.heap.size, rfl, fun k hk => (HC10.out.2.2.1 _ _).2 (.inr (.inl hk)), hrW, ?_, hc11.uf hUW, HXG.out.2.2.2.2.2⟩
                        have hk10 : ∀ k, K7 w10.heap.size k → k < w10.heap.size := fun k hk => by
                          rcases (HC10.out.2.2.1 _ _).1 hk with h | h | h
                          · rw [h]; omega
                          · have := hKM k h; omega
                          · exact h.2
                        exact ((HC10.out.2.1.uf (UF.below hb11 hk10)).more (fun k hk => by
                          rcases (HC10.out.2.2.1 _ _).1 hk with h | h | h
                          · exact (HC10.out.2.2.1 _ _).2 (.inl h)
                          · exact (HC10.out.2.2.1 _ _).2 (.inr (.inl h))
                          · exact (HC10.out.2.2.1 _ _).2 (.inr (.inr ⟨h.1, by omega⟩)))).uf hUW
                      obtain ⟨sc0, sc1, sf0, sf1⟩ := code_blk (show w11.heap[w.heap.size]? = some (.cells #[Value.slice none 0 0, Value.slice none 0 0] 43) by rw [b11.block _ hH1]; exact HBM.out.1)
                      obtain ⟨sc2, sc3, sf2, sf3⟩ := code_blk (show w11.heap[w.heap.size + 1]? = some (.cells #[Value.slice none 0 0, Value.slice none 0 0] 43) by rw [b11.block _ hH2]; exact HBM.out.2)
                      clear hm2 hm2' hb11 hc11 HM2 b11 hs10 hs11 hgM hKM hH1 hH2 hgne rc0 rc1 rc2 rc3 rf0 rf1 rf2 rf3
                      go_wp2
                      refine bodyPost_ret (v := .tuple #[.agg #[.slice x1 SY x2, .slice x3 SY x4], .agg #[.slice y1 k y2, .slice y3 k y4]]) ?_ rfl ?_
                      · rw [results_two rfl]
                        go_simp
                      refine HEND.out _ ?_ ?_ ?_ ?_ ?_
                      · rfl
                      · rfl
                      · rfl
                      · simp
                      · intro k h2 h3 h1
                        rw [Below.heap_setCell _ _ _ _ h3, Below.heap_setCell _ _ _ _ h3, Below.heap_setCell _ _ _ _ h2, Below.heap_setCell _ _ _ _ h2]
            · have hei : ¬ (e6 : Int) = 0 := by omega
              have heb : ((e6 : Int) != 0) = true := by simp; omega
              have heb2 : ((e6 : Int) == 0) = false := by simp; omega
              have HDB : Hid (RR wL K4 r s q4 l most e6 v ∧ x.1 = e6) := ⟨hD.1, hD.2.2.1 he⟩
              clear hRI hD HS
              go_wp2
              refine bodyPost_ret (v := .tuple #[.agg #[.slice none 0 0, .slice none 0 0], .agg #[.slice none 0 0, .slice none 0 0]]) ?_ rfl ?_
              · rw [results_two rfl]
                go_simp
              refine dyn_bad HDB.out.1 he HDB.out.2 HUL.out HU0.out.2 (fun k hk => HK4.out.1 k (HK.out k hk)) (HK4.out.1 _ HKH.out.1) (HK4.out.1 _ HKH.out.2) ?_ ?_ ?_ ?_ ?_
              · rfl
              · rfl
              · rfl
              · simp
              · intro k h2 h3 h1
                rw [Below.heap_setCell _ _ _ _ h3, Below.heap_setCell _ _ _ _ h3, Below.heap_setCell _ _ _ _ h2, Below.heap_setCell _ _ _ _ h2]
end Go.Proofs.YtlbadjfcffoakaaDoor
