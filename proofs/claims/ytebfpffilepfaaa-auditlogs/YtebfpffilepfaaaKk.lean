/- Layer 18: maps of acks; firstAcks walked, of good acks of different ids. -/
import Derived.Test.YtebfpffilepfaaaKj
namespace Go.Proofs.Ytebfpffilepfaaa
open Go.RowKit Go.Maps Go.Shelf
set_option linter.unusedVariables false
set_option maxRecDepth 20000

theorem MT.del {κ β : Type} {k t e : TypeId} {kv : κ → Value} {ev : β → Value} {eD : β → DataW Unit} {R : Value → Option (DataW Unit × List MemPlace)} {z : β} (M : MKind k t e kv ev eD R z) {W : World} {mb n : Nat} {g : κ → Option β} (h : MT k kv eD R z W mb n g) (x : κ) (hx : ∃ kl, keyOf Try.prog k (kv x) = some kl) (ty : TypeId) (g' : κ → Option β) (g1 : g' x = none) (g2 : ∀ y, y ≠ x → g' y = g y) :
    ∃ w', (Builtin.delete_ #[t, k] ty #[.map (some mb), kv x]).run Try.prog W = .ok (.tuple #[]) w' ∧ MT k kv eD R z w' mb n g' ∧ W.grownBy w' (some mb) := by
  obtain ⟨kl, hkl⟩ := hx
  obtain ⟨D, hown, hM⟩ := h
  obtain ⟨w', hrun, h1, h2⟩ := hown.drop M.law M.ty hkl ty
  refine ⟨w', hrun, ⟨_, h1, fun y kl' hk' => ?_⟩, h2.grown⟩
  by_cases e : kl' = kl
  · subst e
    have ey : y = x := M.kinj _ _ (M.law.inj hk' hkl)
    subst ey
    rw [g1]
    refine ⟨?_, fun c hc => by cases hc⟩
    rw [Maps.has_del_same]; rfl
  · have ey : y ≠ x := fun h => by
      subst h
      rw [hkl] at hk'
      cases hk'
      exact e rfl
    rw [g2 y ey, Maps.has_del_other e, Maps.atKey_del_other e]
    exact hM y kl' hk'
def akD (b : Ak) : DataW Unit := .agg [.lit (.int .i64 b.step), .lit (.int .i64 b.prod), .lit (.int .i64 b.seq), .lit (.int .i64 b.err), .lit (.int .i64 b.base), .lit (.int .i64 b.cnt)]
def akR : Value → Option (DataW Unit × List MemPlace)
  | .agg cs => match cs.toList with
    | [.int .i64 a, .int .i64 b, .int .i64 c, .int .i64 d, .int .i64 e, .int .i64 f] => some (akD ⟨a, b, c, d, e, f⟩, [])
    | _ => none
  | _ => none
theorem akR_inv (v : Value) (y : DataW Unit × List MemPlace) (h : akR v = some y) : ∃ b : Ak, v = b.v ∧ y = (akD b, []) := by
  unfold akR at h
  split at h
  · rename_i cs
    split at h
    · rename_i a b c d e f hcs
      cases h
      refine ⟨⟨a, b, c, d, e, f⟩, ?_, rfl⟩
      obtain ⟨l⟩ := cs
      simp only at hcs
      rw [hcs]
    · cases h
  · cases h
def ak0 : Ak := ⟨0, 0, 0, 0, 0, 0⟩
theorem kindA : MKind 28 84 33 idV Ak.v akD akR ak0 where
  law := lawI
  ty := Try.underlying84
  zero := fun w => by kernel_rfl
  reads := fun b => rfl
  inv := akR_inv
  inj := fun a b h => by
    obtain ⟨a1, a2, a3, a4, a5, a6⟩ := a
    obtain ⟨b1, b2, b3, b4, b5, b6⟩ := b
    simp only [akD, DataW.agg.injEq, List.cons.injEq, DataW.lit.injEq, Lit.int.injEq, true_and, and_true] at h
    obtain ⟨h1, h2, h3, h4, h5, h6⟩ := h
    rw [h1, h2, h3, h4, h5, h6]
  kinj := kindI.kinj
abbrev AkMap (w : World) (mb n : Nat) (g : Int × Int → Option Ak) : Prop := MT 28 idV akD akR ak0 w mb n g
/-- The ack of an id. -/
def ofId (P : List Ak) (x : Int × Int) : Option Ak := P.find? fun b => decide (b.prod = x.1) && decide (b.seq = x.2)
def Apart (L : List Ak) : Prop := L.Pairwise fun a b => ¬ (a.prod = b.prod ∧ a.seq = b.seq)
theorem ofId_none {P R : List Ak} {a : Ak} (h : Apart (P ++ a :: R)) : ofId P (a.prod, a.seq) = none := by
  unfold ofId
  rw [List.find?_eq_none]
  intro b hb
  have := (List.pairwise_append.1 h).2.2 b hb a (by simp)
  simpa using this
theorem ofId_snoc {P R : List Ak} {a : Ak} (h : Apart (P ++ a :: R)) (x : Int × Int) : ofId (P ++ [a]) x = if x = (a.prod, a.seq) then some a else ofId P x := by
  by_cases e : x = (a.prod, a.seq)
  · subst e
    have := ofId_none h
    unfold ofId at this ⊢
    rw [List.find?_append, this, if_pos rfl]
    simp
  · rw [if_neg e]
    unfold ofId
    rw [List.find?_append]
    have : ([a].find? fun b => decide (b.prod = x.1) && decide (b.seq = x.2)) = none := by
      rw [List.find?_eq_none]
      intro b hb
      rw [List.mem_singleton] at hb
      subst hb
      simp only [Bool.and_eq_true, decide_eq_true_eq, not_and]
      intro h1 h2
      exact e (Prod.ext h1.symm h2.symm)
    rw [this]
    simp
set_option maxHeartbeats 4000000 in
theorem firsts_ok (a : Option Addr) (cap : Nat) (L : List Ak) (w : World) (hin : AIn w a L) (hok : AOk L) (hg : ∀ x ∈ L, x.goodB = true) (hap : Apart L) (hlen : L.length ≤ 140737488355328) :
    Calls Try.prog 23 #[.slice a L.length cap] w fun e w' => e = .returned (.map (some w.heap.size)) ∧ AkMap w' w.heap.size L.length (ofId L) ∧ Below w.heap.size w w' := by
  have HIN : Hid (AIn w a L) := hin
  have HOK : Hid (AOk L) := hok
  have HGD : Hid (∀ x ∈ L, x.goodB = true) := hg
  have HAP : Hid (Apart L) := hap
  obtain ⟨len, hl⟩ : ∃ len, L.length = len := ⟨_, rfl⟩
  have HL : Hid (L.length = len) := hl
  rw [hl] at hlen ⊢
  clear hin hok hl hg hap
  have HA : Hid (AkMap (w.alloc (.map #[] 0)) w.heap.size 0 (ofId []) ∧ Below w.heap.size w (w.alloc (.map #[] 0))) := ⟨MT.nil _ _ _ _ _ w, below_a _ _⟩
  have hmm := @run_makeMap Try.prog
  go_enter Try.func23, Try.ntmps23
  go_wp2
  clear hmm
  go_loopw [11] (fun i wr => ∃ P R, L = P ++ R ∧ i = .int .i64 (P.length : Nat) ∧ AkMap wr w.heap.size P.length (ofId P) ∧ Below w.heap.size w wr) (fun i _ => len - (intOf i).toNat)
  case atStart => exact ⟨[], L, rfl, rfl, HA.out.1, HA.out.2⟩
  case round =>
    obtain ⟨P, R, hPR, rfl, hM, hB⟩ := hrel
    have HB : Hid (Below w.heap.size w wr) := hB
    have HM : Hid (AkMap wr w.heap.size P.length (ofId P)) := hM
    have hwr : w.heap.size ≤ wr.heap.size := hB.size
    clear hM hB
    cases R with
    | nil =>
      have hPL : P.length = len := by have := HL.out; rw [hPR, List.append_nil] at this; exact this
      have HE : Hid (L = P) := by rw [List.append_nil] at hPR; exact hPR
      clear hPR
      go_wp2_with fail
      go_ret
      exact ⟨rfl, by rw [← hPL, HE.out]; exact HM.out, HB.out⟩
    | cons x R =>
      have hlt : P.length < len := by have := HL.out; rw [hPR] at this; simp at this; omega
      have hx : L[P.length]? = some x := by rw [hPR]; simp
      obtain ⟨hxp, hxs⟩ := HOK.out x (by rw [hPR]; simp)
      have hgx := HGD.out x (by rw [hPR]; simp)
      have hin' : AIn wr a L := HIN.out.below HB.out (Nat.le_refl _)
      obtain ⟨sb, so, rfl, hsb, c0, c1, c2, c3, c4, c5⟩ := hin' _ _ hx
      have HPR : Hid (L = P ++ x :: R) := hPR
      have HNO : Hid (ofId P (x.prod, x.seq) = none) := ofId_none (by rw [← hPR]; exact HAP.out)
      have HSN : Hid (∀ y, ofId (P ++ [x]) y = if y = (x.prod, x.seq) then some x else ofId P y) := fun y => ofId_snoc (by rw [← hPR]; exact HAP.out) y
      clear hPR hx hin'
      obtain ⟨st, p, s, er, b, c⟩ := x
      simp only at hxp hxs c0 c1 c2 c3 c4 c5 HNO HSN
      have HG : Hid (∀ W, Calls Try.prog 9 #[.agg #[.int .i64 st, .int .i64 p, .int .i64 s, .int .i64 er, .int .i64 b, .int .i64 c]] W fun e w' => e = .returned (.bool true) ∧ Below W.heap.size W w') := fun W => by
        have := isGood_ok ⟨st, p, s, er, b, c⟩ W
        rw [hgx] at this
        exact this
      clear hgx
      obtain ⟨U, hU⟩ : ∃ U, wr.heap.size = U := ⟨_, rfl⟩
      have HB5 : Hid (Below wr.heap.size wr (wr.alloc (.cells #[.int .i64 st, .int .i64 p, .int .i64 s, .int .i64 er, .int .i64 b, .int .i64 c] 33)) ∧ (wr.alloc (.cells #[.int .i64 st, .int .i64 p, .int .i64 s, .int .i64 er, .int .i64 b, .int .i64 c] 33)).heap[U]? = some (.cells #[.int .i64 st, .int .i64 p, .int .i64 s, .int .i64 er, .int .i64 b, .int .i64 c] 33 (0, 0))) := by
        refine ⟨below_a _ _, ?_⟩
        rw [← hU]; exact heap_alloc_new _ _
      have HU : Hid (wr.heap.size = U) := hU
      go_upto_region 5 with fail
      clear hU
      generalize (wr.alloc (.cells #[.int .i64 st, .int .i64 p, .int .i64 s, .int .i64 er, .int .i64 b, .int .i64 c] 33)) = w5 at HB5
      clear c0 c1 c2 c3 c4 c5
      obtain ⟨d0, d1, d2, d3, d4, d5⟩ := cells6 HB5.out.2
      go_wp2_with fail
      refine (HG.out _).mono ?_
      rintro e w7 ⟨rfl, hb7⟩
      have HB7 : Hid (Below wr.heap.size wr w7 ∧ w7.heap[U]? = some (.cells #[.int .i64 st, .int .i64 p, .int .i64 s, .int .i64 er, .int .i64 b, .int .i64 c] 33 (0, 0))) := ⟨HB5.out.1.trans (hb7.mono HB5.out.1.size), (hb7.block U (lt_of_block HB5.out.2)).trans HB5.out.2⟩
      clear hb7 d0 d1 d2 d3 d4 d5
      obtain ⟨d0, d1, d2, d3, d4, d5⟩ := cells6 HB7.out.2
      have hl := ((HM.out.below HB7.out.1).look kindA (p, s) (keyI hxp hxs)).1
      rw [HNO.out] at hl
      simp only [Option.getD_none, Option.isSome_none, ak0] at hl
      have HB9 : Hid (Below wr.heap.size wr (w7.alloc (.cells #[.int .i64 0, .int .i64 0, .int .i64 0, .int .i64 0, .int .i64 0, .int .i64 0] 33)) ∧ (w7.alloc (.cells #[.int .i64 0, .int .i64 0, .int .i64 0, .int .i64 0, .int .i64 0, .int .i64 0] 33)).heap[U]? = some (.cells #[.int .i64 st, .int .i64 p, .int .i64 s, .int .i64 er, .int .i64 b, .int .i64 c] 33 (0, 0))) := ⟨HB7.out.1.trans ((below_a w7 _).mono HB7.out.1.size), ((below_a w7 _).block U (lt_of_block HB7.out.2)).trans HB7.out.2⟩
      go_upto_region 10 with fail
      clear hl d0 d1 d2 d3 d4 d5
      generalize (w7.alloc (.cells #[.int .i64 0, .int .i64 0, .int .i64 0, .int .i64 0, .int .i64 0, .int .i64 0] 33)) = w9 at HB9
      obtain ⟨d0, d1, d2, d3, d4, d5⟩ := cells6 HB9.out.2
      obtain ⟨w', hup, hm', hg'⟩ := (HM.out.below HB9.out.1).put kindA (p, s) ⟨st, p, s, er, b, c⟩ (keyI hxp hxs) (by unfold maxLen; omega) (ofId (P ++ [⟨st, p, s, er, b, c⟩])) (by rw [HSN.out, if_pos rfl]) (fun y hy => by rw [HSN.out, if_neg hy])
      have HE : Hid (AkMap w' w.heap.size (P ++ [(⟨st, p, s, er, b, c⟩ : Ak)]).length (ofId (P ++ [⟨st, p, s, er, b, c⟩])) ∧ Below w.heap.size w w') := ⟨by rw [List.length_append]; exact hm', bl_grown (Nat.le_refl _) (HB.out.trans (HB9.out.1.mono hwr)) hg' (Nat.le_refl _)⟩
      clear hm' hg'
      go_wp2_with fail
      exact ⟨⟨P ++ [⟨st, p, s, er, b, c⟩], R, by rw [HPR.out, List.append_assoc]; rfl, by simp, HE.out.1, HE.out.2⟩, by simp [intOf]; omega⟩
end Go.Proofs.Ytebfpffilepfaaa
