/- Layer 18: lastOffsets walked. -/
import Derived.Test.YtebfpffilepfaaaKn
import Derived.Test.YtebfpffilepfaaaUm
namespace Go.Proofs.Ytebfpffilepfaaa
open Go.RowKit Go.Maps Go.Shelf
set_option linter.unusedVariables false
set_option maxRecDepth 20000

theorem noted_len : ∀ B : List Fe, (noted B).length ≤ fsum B := by
  intro B
  induction B with
  | nil => simp [noted, fsum]
  | cons b B ih =>
    have h1 : (if b.err = 0 then b.rec' else []).length ≤ b.rec'.length := by split <;> simp
    have h2 : noted (b :: B) = (if b.err = 0 then b.rec' else []) ++ noted B := by simp [noted]
    rw [h2, List.length_append]
    simp only [fsum]
    omega
set_option maxHeartbeats 8000000 in
theorem lasts_ok (a : Option Addr) (cap : Nat) (L : List Due) (fa : Option Addr) (fcap : Nat) (F : List Fe) (w : World) (hin : DIn w a L) (hdo : ∀ d ∈ L, d.rec'.ok) (hfin : FIn w fa F) (hfo : FOk F) (hsum : L.length + fsum F ≤ 100000) (hfl : F.length ≤ 100000) :
    Calls Try.prog 22 #[.slice a L.length cap, .slice fa F.length fcap] w fun e w' => e = .returned (.map (some w.heap.size)) ∧ LO w w' (L.map Due.rec' ++ noted F) := by
  have eg : ∀ args w, (callFunc 28 args).run Try.prog w = .ok (.enter 28 args) w := enters_of Try.func28 (by kernel_rfl) rfl
  have HIN : Hid (DIn w a L) := hin
  have HDO : Hid (∀ d ∈ L, d.rec'.ok) := hdo
  have HFI : Hid (FIn w fa F) := hfin
  have HFO : Hid (FOk F) := hfo
  have HSUM : Hid (L.length + fsum F ≤ 100000) := hsum
  have HN : Hid (∀ (W : World) (N : List Rec) (r : Rec), LO w W N → r.ok → N.length < 1000000 → Calls Try.prog 28 #[.agg #[.int .i64 r.off, .string r.key, .string r.val, .bool r.gone], .pointer (some ⟨w.heap.size + 1, 0, none⟩)] W fun e w' => e = .returned (.tuple #[]) ∧ LO w w' (N ++ [r])) := fun W N r h hr hn => note_ok w W N r h hr hn
  obtain ⟨len, hl⟩ : ∃ len, L.length = len := ⟨_, rfl⟩
  have HL : Hid (L.length = len) := hl
  obtain ⟨fl, hf⟩ : ∃ fl, F.length = fl := ⟨_, rfl⟩
  have HFL : Hid (F.length = fl) := hf
  have hlen : len ≤ 100000 := by omega
  rw [hl]
  rw [hf] at hfl ⊢
  clear hin hdo hfin hfo hl hf hsum
  have HA : Hid (LO w ((w.alloc (.map #[] 0)).alloc (.cells #[.map (some w.heap.size)] 80)) []) := by
    have hz : (w.alloc (.map #[] 0)).heap.size = w.heap.size + 1 := by simp
    refine ⟨(MT.nil _ _ _ _ _ w).below (below_a _ _), ?_, bl_alloc (Nat.le_refl _) (below_a _ _)⟩
    rw [← hz]; exact heap_alloc_new _ _
  have hmm := @run_makeMap Try.prog
  go_enter Try.func22, Try.ntmps22
  go_wp2_with fail
  clear hmm
  go_loopw [17] (fun i wr => ∃ P R, L = P ++ R ∧ i = .int .i64 (P.length : Nat) ∧ LO w wr (P.map Due.rec')) (fun i _ => len - (intOf i).toNat)
  case atStart => exact ⟨[], L, rfl, rfl, HA.out⟩
  case round =>
    obtain ⟨P, R, hPR, rfl, hO⟩ := hrel
    have HO : Hid (LO w wr (P.map Due.rec')) := hO
    have hwr : w.heap.size ≤ wr.heap.size := hO.bel.size
    clear hO
    cases R with
    | cons x R =>
      have hlt : P.length < len := by have := HL.out; rw [hPR] at this; simp at this; omega
      have hx : L[P.length]? = some x := by rw [hPR]; simp
      have hxo := HDO.out x (by rw [hPR]; simp)
      obtain ⟨sb, so, rfl, hsb, c0, c1, c2, c3, c4⟩ := HIN.out.bel HO.out.bel _ _ hx
      have HPR : Hid (L = P ++ x :: R) := hPR
      have HXO : Hid x.rec'.ok := hxo
      clear hPR hx hxo
      obtain ⟨⟨o, k, v, g⟩, s⟩ := x
      simp only at c0 c1 c2 c3 c4
      have HB5 : Hid (Below wr.heap.size wr (wr.alloc (.cells #[.int .i64 o, .string k, .string v, .bool g, .int .i64 s] 74)) ∧ (wr.alloc (.cells #[.int .i64 o, .string k, .string v, .bool g, .int .i64 s] 74)).heap[wr.heap.size]? = some (.cells #[.int .i64 o, .string k, .string v, .bool g, .int .i64 s] 74 (0, 0))) := ⟨below_a _ _, heap_alloc_new _ _⟩
      go_upto_region 6 with fail
      generalize (wr.alloc (.cells #[.int .i64 o, .string k, .string v, .bool g, .int .i64 s] 74)) = w5 at HB5
      clear c0 c1 c2 c3 c4
      obtain ⟨d0, d1, d2, d3, d4⟩ := cells5 HB5.out.2
      have HC : Hid (Calls Try.prog 28 #[.agg #[.int .i64 o, .string k, .string v, .bool g], .pointer (some ⟨w.heap.size + 1, 0, none⟩)] w5 fun e w' => e = .returned (.tuple #[]) ∧ LO w w' (P.map Due.rec' ++ [⟨o, k, v, g⟩])) := HN.out w5 _ ⟨o, k, v, g⟩ (HO.out.below HB5.out.1) HXO.out (by simp; omega)
      go_wp2_with fail
      refine HC.out.mono ?_
      rintro e w6 ⟨rfl, hO6⟩
      have HE : Hid (LO w w6 ((P ++ [(⟨⟨o, k, v, g⟩, s⟩ : Due)]).map Due.rec')) := by
        show LO w w6 ((P ++ [(⟨⟨o, k, v, g⟩, s⟩ : Due)]).map Due.rec')
        rw [List.map_append]; exact hO6
      clear hO6
      go_wp2_with fail
      exact ⟨⟨P ++ [⟨⟨o, k, v, g⟩, s⟩], R, by rw [HPR.out, List.append_assoc]; rfl, by simp, HE.out⟩, by simp [intOf]; omega⟩
    | nil =>
      have hPL : P.length = len := by have := HL.out; rw [hPR, List.append_nil] at this; exact this
      have hPe : P = L := by rw [hPR, List.append_nil]
      subst hPe
      have HPL : Hid (P.length = len) := hPL
      rw [hPL]
      clear hPR hPL
      go_wp2_with fail
      go_loopw [28] (fun i wr => ∃ A C, F = A ++ C ∧ i = .int .i64 (A.length : Nat) ∧ LO w wr (P.map Due.rec' ++ noted A)) (fun i _ => fl - (intOf i).toNat)
      case atStart => exact ⟨[], F, rfl, rfl, by simpa [noted] using HO.out⟩
      case round =>
        obtain ⟨A, C, hAC, rfl, hO⟩ := hrel
        have HO2 : Hid (LO w wr (P.map Due.rec' ++ noted A)) := hO
        have hwr2 : w.heap.size ≤ wr.heap.size := hO.bel.size
        clear hO
        cases C with
        | nil =>
          have hAl : A.length = fl := by have := HFL.out; rw [hAC, List.append_nil] at this; exact this
          have hAe : A = F := by rw [hAC, List.append_nil]
          subst hAe
          have c0 : wr.cell? ⟨w.heap.size + 1, 0, none⟩ = some (.map (some w.heap.size)) := by simp [World.cell?, HO2.out.cell]
          clear hAC
          go_wp2_with fail
          go_ret
          exact ⟨rfl, HO2.out⟩
        | cons x C =>
          have hlt : A.length < fl := by have := HFL.out; rw [hAC] at this; simp at this; omega
          have hx : F[A.length]? = some x := by rw [hAC]; simp
          obtain ⟨hro, hrl⟩ := HFO.out x (by rw [hAC]; simp)
          have hnl : (noted A).length + x.rec'.length ≤ fsum F := by
            rw [hAC, fsum_append]
            have := noted_len A
            simp only [fsum]
            omega
          obtain ⟨sb, so, ra, rc, rfl, hsb, a0, a1, a2, a3, a4, hri⟩ := HFI.out _ _ hx
          have c0 := cellB HO2.out.bel a0
          have c1 := cellB HO2.out.bel a1
          have c2 := cellB HO2.out.bel a2
          have c3 := cellB HO2.out.bel a3
          have c4 := cellB HO2.out.bel a4
          clear a0 a1 a2 a3 a4
          have HAC : Hid (F = A ++ x :: C) := hAC
          have HRI : Hid (RIn w ra x.rec') := hri
          have HRO : Hid (ROk x.rec') := hro
          have HNL : Hid ((noted A).length + x.rec'.length ≤ fsum F) := hnl
          clear hAC hx hri hro hnl
          obtain ⟨st, nd, fr, er, M⟩ := x
          simp only at c0 c1 c2 c3 c4 hrl HNL
          obtain ⟨ml, hml⟩ : ∃ ml, M.length = ml := ⟨_, rfl⟩
          have HML : Hid (M.length = ml) := hml
          rw [hml] at c4 hrl HNL
          clear hml
          have HB7 : Hid (Below wr.heap.size wr (wr.alloc (.cells #[.int .i64 st, .int .i64 nd, .int .i64 fr, .int .i64 er, .slice ra ml rc] 40)) ∧ (wr.alloc (.cells #[.int .i64 st, .int .i64 nd, .int .i64 fr, .int .i64 er, .slice ra ml rc] 40)).heap[wr.heap.size]? = some (.cells #[.int .i64 st, .int .i64 nd, .int .i64 fr, .int .i64 er, .slice ra ml rc] 40 (0, 0))) := ⟨below_a _ _, heap_alloc_new _ _⟩
          go_upto_region 11 with fail
          generalize (wr.alloc (.cells #[.int .i64 st, .int .i64 nd, .int .i64 fr, .int .i64 er, .slice ra ml rc] 40)) = w7 at HB7
          clear c0 c1 c2 c3 c4
          obtain ⟨d0, d1, d2, d3, d4⟩ := cells5 HB7.out.2
          have HO7 : Hid (LO w w7 (P.map Due.rec' ++ noted A)) := HO2.out.below HB7.out.1
          by_cases he : er = 0
          · subst he
            go_wp2_with fail
            clear d0 d1 d2 d3 d4
            go_loopw [38] (fun j wi => ∃ Q T, M = Q ++ T ∧ j = .int .i64 (Q.length : Nat) ∧ LO w wi ((P.map Due.rec' ++ noted A) ++ Q)) (fun j _ => ml - (intOf j).toNat)
            case atStart => exact ⟨[], M, rfl, rfl, by simpa using HO7.out⟩
            case round =>
              obtain ⟨Q, T, hQT, rfl, hO⟩ := hrel
              have HO3 : Hid (LO w wr ((P.map Due.rec' ++ noted A) ++ Q)) := hO
              have hwr3 : w.heap.size ≤ wr.heap.size := hO.bel.size
              clear hO
              cases T with
              | nil =>
                have hQM : Q = M := by rw [hQT, List.append_nil]
                have hQl : Q.length = ml := by rw [hQM]; exact HML.out
                have HE : Hid (LO w wr (P.map Due.rec' ++ noted (A ++ [⟨st, nd, fr, 0, M⟩]))) := by
                  show LO w wr (P.map Due.rec' ++ noted (A ++ [⟨st, nd, fr, 0, M⟩]))
                  rw [noted_snoc, if_pos rfl, ← List.append_assoc, ← hQM]; exact HO3.out
                clear hQT hQM
                go_wp2_with fail
                exact ⟨⟨A ++ [⟨st, nd, fr, 0, M⟩], C, by rw [HAC.out, List.append_assoc]; rfl, by simp, HE.out⟩, by simp [intOf]; omega⟩
              | cons y T =>
                have hltq : Q.length < ml := by have := HML.out; rw [hQT] at this; simp at this; omega
                have hy : M[Q.length]? = some y := by rw [hQT]; simp
                have hyo := HRO.out y (by rw [hQT]; simp)
                obtain ⟨yb, yo, rfl, hyb, e0, e1, e2, e3⟩ := HRI.out.bel HO3.out.bel _ _ hy
                have HQT : Hid (M = Q ++ y :: T) := hQT
                have HYO : Hid y.ok := hyo
                clear hQT hy hyo
                obtain ⟨o, k, v, g⟩ := y
                simp only at e0 e1 e2 e3
                have HB9 : Hid (Below wr.heap.size wr (wr.alloc (.cells #[.int .i64 o, .string k, .string v, .bool g] 36)) ∧ (wr.alloc (.cells #[.int .i64 o, .string k, .string v, .bool g] 36)).heap[wr.heap.size]? = some (.cells #[.int .i64 o, .string k, .string v, .bool g] 36 (0, 0))) := ⟨below_a _ _, heap_alloc_new _ _⟩
                go_upto_region 15 with fail
                generalize (wr.alloc (.cells #[.int .i64 o, .string k, .string v, .bool g] 36)) = w9 at HB9
                clear e0 e1 e2 e3
                obtain ⟨d0, d1, d2, d3⟩ := cells4 HB9.out.2
                have HC : Hid (Calls Try.prog 28 #[.agg #[.int .i64 o, .string k, .string v, .bool g], .pointer (some ⟨w.heap.size + 1, 0, none⟩)] w9 fun e w' => e = .returned (.tuple #[]) ∧ LO w w' (((P.map Due.rec' ++ noted A) ++ Q) ++ [⟨o, k, v, g⟩])) := HN.out w9 _ ⟨o, k, v, g⟩ (HO3.out.below HB9.out.1) HYO.out (by have h1 := HNL.out; have h2 := HSUM.out; have h3 := HPL.out; simp only [List.length_append, List.length_map]; omega)
                go_wp2_with fail
                refine HC.out.mono ?_
                rintro e w10 ⟨rfl, hO10⟩
                have HE : Hid (LO w w10 ((P.map Due.rec' ++ noted A) ++ (Q ++ [⟨o, k, v, g⟩]))) := by
                  show LO w w10 ((P.map Due.rec' ++ noted A) ++ (Q ++ [⟨o, k, v, g⟩]))
                  rw [← List.append_assoc]; exact hO10
                clear hO10
                go_wp2_with fail
                exact ⟨⟨Q ++ [⟨o, k, v, g⟩], T, by rw [HQT.out, List.append_assoc]; rfl, by simp, HE.out⟩, by simp [intOf]; omega⟩
          · have HE : Hid (LO w w7 (P.map Due.rec' ++ noted (A ++ [⟨st, nd, fr, er, M⟩]))) := by
              show LO w w7 (P.map Due.rec' ++ noted (A ++ [⟨st, nd, fr, er, M⟩]))
              rw [noted_snoc, if_neg he, List.append_nil]; exact HO7.out
            go_wp2_with fail
            exact ⟨⟨A ++ [⟨st, nd, fr, er, M⟩], C, by rw [HAC.out, List.append_assoc]; rfl, by simp, HE.out⟩, by simp [intOf]; omega⟩
end Go.Proofs.Ytebfpffilepfaaa
