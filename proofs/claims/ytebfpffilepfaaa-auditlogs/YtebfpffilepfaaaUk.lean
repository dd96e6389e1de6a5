/- Layer 18: areAmong and goesWith walked. -/
import Derived.Test.YtebfpffilepfaaaUi
namespace Go.Proofs.Ytebfpffilepfaaa
open Go.RowKit Go.Maps
set_option linter.unusedVariables false
set_option maxRecDepth 20000

set_option maxHeartbeats 2000000 in
theorem areAmong_ok (mb n : Nat) (S : List Rec) (ra : Option Addr) (rc : Nat) (M : List Rec) (w : World) (hT : TxS w mb n S) (hin : RIn w ra M) (hok : ROk M) (hlen : M.length ≤ 9223372036854775807) :
    Calls Try.prog 14 #[.map (some mb), .slice ra M.length rc] w fun e w' => ∃ b : Bool, e = .returned (.bool b) ∧ (b = true ↔ ∀ r ∈ M, r.zero ∈ S) ∧ Below w.heap.size w w' := by
  have HIN : Hid (RIn w ra M) := hin
  have HT : Hid (TxS w mb n S) := hT
  have HOK : Hid (ROk M) := hok
  obtain ⟨ml, hl⟩ : ∃ ml, M.length = ml := ⟨_, rfl⟩
  have HML : Hid (M.length = ml) := hl
  rw [hl] at hlen ⊢
  clear hin hl hT hok
  go_enter Try.func14, Try.ntmps14
  go_wp2
  go_loopw [11] (fun i wr => ∃ P R, M = P ++ R ∧ i = .int .i64 (P.length : Nat) ∧ (∀ r ∈ P, r.zero ∈ S) ∧ Below w.heap.size w wr) (fun i _ => ml - (intOf i).toNat)
  case atStart => exact ⟨[], M, rfl, rfl, fun r h => by simp at h, Below.refl _ _⟩
  case round =>
    obtain ⟨P, R, hPR, rfl, hf, hB⟩ := hrel
    have HB : Hid (Below w.heap.size w wr) := hB
    have HF : Hid (∀ r ∈ P, r.zero ∈ S) := hf
    have hwr : w.heap.size ≤ wr.heap.size := hB.size
    clear hB hf
    cases R with
    | nil =>
      have hPL : P.length = ml := by have := HML.out; rw [hPR, List.append_nil] at this; exact this
      have HE : Hid (∀ r ∈ M, r.zero ∈ S) := by rw [hPR, List.append_nil]; exact HF.out
      clear hPR
      go_wp2_with fail
      go_ret
      exact ⟨true, rfl, ⟨fun _ => HE.out, fun _ => rfl⟩, HB.out⟩
    | cons x R =>
      have hlt : P.length < ml := by have := HML.out; rw [hPR] at this; simp at this; omega
      have hx : M[P.length]? = some x := by rw [hPR]; simp
      obtain ⟨yb, yo, rfl, hyb, c0, c1, c2, c3⟩ := HIN.out.bel HB.out _ _ hx
      have HPR : Hid (M = P ++ x :: R) := hPR
      have HXO : Hid x.ok := HOK.out x (by rw [hPR]; simp)
      clear hPR hx
      obtain ⟨o, k, v, g⟩ := x
      simp only at c0 c1 c2 c3
      have HB4 : Hid (Below wr.heap.size wr (wr.alloc (.cells #[.int .i64 0, .string k, .string v, .bool g] 36)) ∧ (wr.alloc (.cells #[.int .i64 0, .string k, .string v, .bool g] 36)).heap[wr.heap.size]? = some (.cells #[.int .i64 0, .string k, .string v, .bool g] 36 (0, 0))) := ⟨below_a _ _, heap_alloc_new _ _⟩
      go_upto_region 5 with fail
      generalize (wr.alloc (.cells #[.int .i64 0, .string k, .string v, .bool g] 36)) = w4 at HB4
      clear c0 c1 c2 c3
      have HBW : Hid (Below w.heap.size w w4) := HB.out.trans (HB4.out.1.mono hwr)
      obtain ⟨d0, d1, d2, d3⟩ := cells4 HB4.out.2
      obtain ⟨b, hb, hl⟩ := (HT.out.below HBW.out).look (Rec.zero_ok HXO.out)
      have HBB : Hid (b = true ↔ (⟨0, k, v, g⟩ : Rec) ∈ S) := hb
      simp only [Rec.v, Rec.zero] at hl
      have HBA : Hid (∀ o, Below w.heap.size w (w4.alloc o)) := fun o => bl_alloc (Nat.le_refl _) HBW.out
      clear hb
      cases b
      · go_wp2_with fail
        go_ret
        refine ⟨false, rfl, ⟨fun h => (by cases h), fun h => ?_⟩, HBA.out _⟩
        have := h ⟨o, k, v, g⟩ (by rw [HPR.out]; simp)
        have := HBB.out.2 this
        cases this
      · have HN : Hid (∀ r ∈ P ++ [⟨o, k, v, g⟩], r.zero ∈ S) := fun r hr => by
          rw [List.mem_append, List.mem_singleton] at hr
          rcases hr with hr | rfl
          · exact HF.out r hr
          · exact HBB.out.1 rfl
        go_wp2_with fail
        exact ⟨⟨P ++ [⟨o, k, v, g⟩], R, by rw [HPR.out, List.append_assoc]; rfl, by simp, HN.out, HBA.out _⟩, by simp [intOf]; omega⟩

/-- Of the records of N the last one at an offset. -/
def atOff (N : List Rec) (o : Int) : Option Rec := (N.filter fun r => decide (r.off = o)).getLast?
theorem atOff_snoc (N : List Rec) (x : Rec) (o : Int) : atOff (N ++ [x]) o = if x.off = o then some x else atOff N o := by
  unfold atOff
  rw [List.filter_append]
  by_cases h : x.off = o
  · rw [if_pos h]; simp [h]
  · rw [if_neg h]; simp [h]
theorem atOff_some {N : List Rec} {o : Int} {q : Rec} (h : atOff N o = some q) : q ∈ N ∧ q.off = o := by
  have := List.mem_of_getLast? h
  simpa using this
theorem atOff_none {N : List Rec} {o : Int} (h : atOff N o = none) : ∀ q ∈ N, q.off ≠ o := fun q hq e => by
  unfold atOff at h
  rw [List.getLast?_eq_none_iff, List.filter_eq_nil_iff] at h
  exact h q hq (by simpa using e)
/-- Block mb holds the records of N by their offsets. -/
def AtS (w : World) (mb n : Nat) (N : List Rec) : Prop := AtMap w mb n (atOff N)
theorem AtS.below {w w' : World} {mb n : Nat} {N : List Rec} (h : AtS w mb n N) (hb : Below w.heap.size w w') : AtS w' mb n N := MT.below h hb
theorem AtS.look {W : World} {mb n : Nat} {N : List Rec} (h : AtS W mb n N) (o : Int) (ho : isInt o) : (Instr.lookup 59 (.map (some mb)) (.int .i64 o) true).run Try.prog W = .ok (.tuple #[((atOff N o).getD rec0).v, .bool (atOff N o).isSome]) W := (MT.look kindM h o (keyN ho)).1
theorem AtS.put {W : World} {mb n : Nat} {N : List Rec} (h : AtS W mb n N) {x : Rec} (hx : isInt x.off) (hn : n < 9223372036854775807) : ∃ w', (Instr.mapUpdate 59 (.map (some mb)) (.int .i64 x.off) x.v).run Try.prog W = .ok () w' ∧ AtS w' mb (n + 1) (N ++ [x]) ∧ W.grownBy w' (some mb) :=
  MT.put kindM h x.off x (keyN hx) (by unfold maxLen; omega) (atOff (N ++ [x])) (by rw [atOff_snoc, if_pos rfl]) (fun y hy => by rw [atOff_snoc, if_neg (fun e => hy e.symm)])
/-- At an offset always the same record. -/
def Uni (N : List Rec) : Prop := ∀ q ∈ N, ∀ r ∈ N, q.off = r.off → q = r
def Fits (N M : List Rec) : Prop := ∀ r ∈ M, ∀ q ∈ N, q.off = r.off → q = r
def Up (M : List Rec) : Prop := M.Pairwise fun a b => a.off < b.off
theorem Uni.append {N M : List Rec} (h : Uni N) (hm : Up M) (hf : Fits N M) : Uni (N ++ M) := fun q hq r hr e => by
  rw [List.mem_append] at hq hr
  rcases hq with hq | hq
  · rcases hr with hr | hr
    · exact h q hq r hr e
    · exact hf r hr q hq e
  · rcases hr with hr | hr
    · exact (hf q hq r hr e.symm).symm
    · rw [List.mem_iff_getElem] at hq hr
      obtain ⟨i, hi, rfl⟩ := hq
      obtain ⟨j, hj, rfl⟩ := hr
      rcases Nat.lt_trichotomy i j with h1 | h1 | h1
      · have := List.pairwise_iff_getElem.1 hm i j hi hj h1; omega
      · subst h1; rfl
      · have := List.pairwise_iff_getElem.1 hm j i hj hi h1; omega
end Go.Proofs.Ytebfpffilepfaaa
