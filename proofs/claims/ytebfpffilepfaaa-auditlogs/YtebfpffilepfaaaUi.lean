/- Layer 18: textsOf walked. -/
import Derived.Test.YtebfpffilepfaaaUh
namespace Go.Proofs.Ytebfpffilepfaaa
open Go.RowKit Go.Maps
set_option linter.unusedVariables false
set_option maxRecDepth 20000

def Rec.zero (r : Rec) : Rec := ⟨0, r.key, r.val, r.gone⟩
theorem Rec.zero_ok {r : Rec} (h : r.ok) : r.zero.ok := ⟨show isInt 0 from ⟨by omega, by omega⟩, h.2⟩
/-- Block mb is a map whose keys are just the records of S. -/
def TxS (w : World) (mb n : Nat) (S : List Rec) : Prop := ∃ g, TxMap w mb n g ∧ ∀ r, (g r).isSome = true ↔ r ∈ S
theorem TxS.lt {w : World} {mb n : Nat} {S : List Rec} (h : TxS w mb n S) : mb < w.heap.size := by
  obtain ⟨g, h1, _⟩ := h
  exact h1.lt
theorem TxS.block {w w' : World} {mb n : Nat} {S : List Rec} (h : TxS w mb n S) (hb : w'.heap[mb]? = w.heap[mb]?) : TxS w' mb n S := by
  obtain ⟨g, h1, h2⟩ := h
  exact ⟨g, h1.block hb, h2⟩
theorem TxS.below {w w' : World} {mb n : Nat} {S : List Rec} (h : TxS w mb n S) (hb : Below w.heap.size w w') : TxS w' mb n S := h.block (hb.block mb h.lt)
theorem TxS.look {W : World} {mb n : Nat} {S : List Rec} (h : TxS W mb n S) {x : Rec} (hx : x.ok) : ∃ b : Bool, (b = true ↔ x ∈ S) ∧ (Instr.lookup 57 (.map (some mb)) x.v true).run Try.prog W = .ok (.tuple #[.agg #[], .bool b]) W := by
  obtain ⟨g, h1, h2⟩ := h
  exact ⟨_, h2 x, (h1.look kindT x (keyR hx)).1⟩
theorem TxS.put {W : World} {mb n : Nat} {S : List Rec} (h : TxS W mb n S) {x : Rec} (hx : x.ok) (hn : n < 9223372036854775807) : ∃ w', (Instr.mapUpdate 57 (.map (some mb)) x.v (.agg #[])).run Try.prog W = .ok () w' ∧ TxS w' mb (n + 1) (S ++ [x]) ∧ W.grownBy w' (some mb) := by
  classical
  obtain ⟨g, h1, h2⟩ := h
  obtain ⟨w', hr, hm, hg⟩ := h1.put kindT x () (keyR hx) (by unfold maxLen; omega) (fun y => if y = x then some () else g y) (by simp) (fun y hy => by rw [if_neg hy])
  refine ⟨w', hr, ⟨_, hm, fun r => ?_⟩, hg⟩
  by_cases e : r = x
  · simp [e]
  · simp [e, h2 r]
def zeros (L : List Sd) : List Rec := L.flatMap fun s => s.rec'.map Rec.zero
theorem zeros_snoc (L : List Sd) (s : Sd) : zeros (L ++ [s]) = zeros L ++ s.rec'.map Rec.zero := by simp [zeros]
set_option maxHeartbeats 2000000 in
theorem textsOf_ok (a : Option Addr) (cap : Nat) (L : List Sd) (w : World) (hin : SIn w a L) (hok : SOk L) (hlen : L.length ≤ 9223372036854775807) (hsum : ssum L ≤ 4611686018427387904) :
    Calls Try.prog 11 #[.slice a L.length cap] w fun e w' => e = .returned (.map (some w.heap.size)) ∧ TxS w' w.heap.size (ssum L) (zeros L) ∧ Below w.heap.size w w' := by
  have HIN : Hid (SIn w a L) := hin
  have HOK : Hid (SOk L) := hok
  have HSUM : Hid (ssum L ≤ 4611686018427387904) := hsum
  obtain ⟨len, hl⟩ : ∃ len, L.length = len := ⟨_, rfl⟩
  have HL : Hid (L.length = len) := hl
  rw [hl] at hlen ⊢
  clear hin hok hl hsum
  have HA : Hid (TxS (w.alloc (.map #[] 0)) w.heap.size 0 [] ∧ Below w.heap.size w (w.alloc (.map #[] 0))) :=
    ⟨⟨_, MT.nil _ _ _ _ _ w, fun r => by simp⟩, below_a _ _⟩
  have hmm := @run_makeMap Try.prog
  go_enter Try.func11, Try.ntmps11
  go_wp2
  clear hmm
  go_loopw [11] (fun i wr => ∃ P R, L = P ++ R ∧ i = .int .i64 (P.length : Nat) ∧ TxS wr w.heap.size (ssum P) (zeros P) ∧ Below w.heap.size w wr) (fun i _ => len - (intOf i).toNat)
  case atStart => exact ⟨[], L, rfl, rfl, HA.out.1, HA.out.2⟩
  case round =>
    obtain ⟨P, R, hPR, rfl, hT, hB⟩ := hrel
    have HB : Hid (Below w.heap.size w wr) := hB
    have HT : Hid (TxS wr w.heap.size (ssum P) (zeros P)) := hT
    have hwr : w.heap.size ≤ wr.heap.size := hB.size
    clear hB hT
    cases R with
    | nil =>
      have hPL : P.length = len := by have := HL.out; rw [hPR, List.append_nil] at this; exact this
      have HE : Hid (L = P) := by rw [List.append_nil] at hPR; exact hPR
      clear hPR
      go_wp2_with fail
      go_ret
      exact ⟨rfl, by rw [HE.out]; exact HT.out, HB.out⟩
    | cons x R =>
      have hlt : P.length < len := by have := HL.out; rw [hPR] at this; simp at this; omega
      have hx : L[P.length]? = some x := by rw [hPR]; simp
      obtain ⟨hro, hrl⟩ := HOK.out x (by rw [hPR]; simp)
      have hss : ssum P + x.rec'.length ≤ 4611686018427387904 := by
        have := HSUM.out
        rw [hPR, ssum_append] at this
        simp only [ssum] at this
        omega
      obtain ⟨sb, so, ra, rc, rfl, hsb, c0, c1, c2, hri⟩ := HIN.out _ _ hx
      obtain ⟨c0, c1, c2⟩ : _ ∧ _ ∧ _ := ⟨cellB HB.out c0, cellB HB.out c1, cellB HB.out c2⟩
      have HPR : Hid (L = P ++ x :: R) := hPR
      have HRI : Hid (RIn w ra x.rec') := hri
      have HRO : Hid (ROk x.rec') := hro
      clear hPR hx hri hro
      obtain ⟨p, s, M⟩ := x
      simp only at c0 c1 c2 hrl hss
      obtain ⟨ml, hml⟩ : ∃ ml, M.length = ml := ⟨_, rfl⟩
      have HML : Hid (M.length = ml) := hml
      rw [hml] at c2 hrl hss
      clear hml
      have HB5 : Hid (Below wr.heap.size wr (wr.alloc (.cells #[.int .i64 p, .int .i64 s, .slice ra ml rc] 34)) ∧ (wr.alloc (.cells #[.int .i64 p, .int .i64 s, .slice ra ml rc] 34)).heap[wr.heap.size]? = some (.cells #[.int .i64 p, .int .i64 s, .slice ra ml rc] 34 (0, 0))) := ⟨below_a _ _, heap_alloc_new _ _⟩
      go_upto_region 5 with fail
      generalize (wr.alloc (.cells #[.int .i64 p, .int .i64 s, .slice ra ml rc] 34)) = w5 at HB5
      clear c0 c1 c2
      obtain ⟨d0, d1, d2⟩ := cells3 HB5.out.2
      go_wp2_with fail
      clear d0 d1 d2
      go_loopw [18] (fun k wi => ∃ Q T, M = Q ++ T ∧ k = .int .i64 (Q.length : Nat) ∧ TxS wi w.heap.size (ssum P + Q.length) (zeros P ++ Q.map Rec.zero) ∧ Below w.heap.size w wi) (fun k _ => ml - (intOf k).toNat)
      case atStart => exact ⟨[], M, rfl, rfl, by simpa using HT.out.below HB5.out.1, HB.out.trans (HB5.out.1.mono hwr)⟩
      case round =>
        obtain ⟨Q, T, hQT, rfl, hT, hB⟩ := hrel
        have HBI : Hid (Below w.heap.size w wr) := hB
        have HTI : Hid (TxS wr w.heap.size (ssum P + Q.length) (zeros P ++ Q.map Rec.zero)) := hT
        have hri := HRI.out.bel hB
        have hsw : w.heap.size ≤ wr.heap.size := hB.size
        clear hB hT
        cases T with
        | nil =>
          have hQM : Q = M := by rw [hQT, List.append_nil]
          have hQl : Q.length = ml := by rw [hQM]; exact HML.out
          have HE : Hid (TxS wr w.heap.size (ssum (P ++ [⟨p, s, M⟩])) (zeros (P ++ [⟨p, s, M⟩]))) := by
            have := HTI.out
            rw [hQM] at this
            show TxS wr w.heap.size (ssum (P ++ [⟨p, s, M⟩])) (zeros (P ++ [⟨p, s, M⟩]))
            rw [zeros_snoc, ssum_append]
            simpa [ssum] using this
          clear hri hQT hQM
          go_wp2_with fail
          exact ⟨⟨P ++ [⟨p, s, M⟩], R, by rw [HPR.out, List.append_assoc]; rfl, by simp, HE.out, HBI.out⟩, by simp [intOf]; omega⟩
        | cons y T =>
          have hltq : Q.length < ml := by have := HML.out; rw [hQT] at this; simp at this; omega
          have hy : M[Q.length]? = some y := by rw [hQT]; simp
          have hyo := HRO.out y (by rw [hQT]; simp)
          obtain ⟨yb, yo, rfl, hyb, e0, e1, e2, e3⟩ := hri _ _ hy
          have HQT : Hid (M = Q ++ y :: T) := hQT
          have HYO : Hid y.ok := hyo
          clear hri hQT hy hyo
          obtain ⟨o, k, v, g⟩ := y
          simp only at e0 e1 e2 e3
          have HB7 : Hid (Below wr.heap.size wr (wr.alloc (.cells #[.int .i64 0, .string k, .string v, .bool g] 36)) ∧ (wr.alloc (.cells #[.int .i64 0, .string k, .string v, .bool g] 36)).heap[wr.heap.size]? = some (.cells #[.int .i64 0, .string k, .string v, .bool g] 36 (0, 0))) := ⟨below_a _ _, heap_alloc_new _ _⟩
          go_upto_region 9 with fail
          generalize (wr.alloc (.cells #[.int .i64 0, .string k, .string v, .bool g] 36)) = w7 at HB7
          clear e0 e1 e2 e3
          obtain ⟨d0, d1, d2, d3⟩ := cells4 HB7.out.2
          obtain ⟨w', hup, hT', hg'⟩ := (HTI.out.below HB7.out.1).put (Rec.zero_ok HYO.out) (by omega)
          have HE : Hid (TxS w' w.heap.size (ssum P + (Q ++ [(⟨o, k, v, g⟩ : Rec)]).length) (zeros P ++ (Q ++ [(⟨o, k, v, g⟩ : Rec)]).map Rec.zero) ∧ Below w.heap.size w w' ∧ w7.grownBy w' (some w.heap.size)) := by
            refine ⟨?_, bl_grown (Nat.le_refl _) (HBI.out.trans (HB7.out.1.mono hsw)) hg' (Nat.le_refl _), hg'⟩
            rw [List.map_append, ← List.append_assoc, List.length_append]
            exact hT'
          simp only [Rec.v, Rec.zero] at hup
          clear hT' hg'
          go_wp2_with fail
          refine ⟨⟨Q ++ [⟨o, k, v, g⟩], T, by rw [HQT.out, List.append_assoc]; rfl, by simp, HE.out.1, HE.out.2.1⟩, by simp [intOf]; omega⟩
end Go.Proofs.Ytebfpffilepfaaa
