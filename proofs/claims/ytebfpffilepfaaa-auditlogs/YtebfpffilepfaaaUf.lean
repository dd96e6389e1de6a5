/- Layer 18: Acks walked. -/
import Derived.Test.YtebfpffilepfaaaUe
import Derived.Deep.RegionHeldLaw
namespace Go.Proofs.Ytebfpffilepfaaa
open Go.RowKit Go.Maps
set_option linter.unusedVariables false
set_option maxRecDepth 20000

theorem cells6 {w : World} {b : Nat} {t : TypeId} {a0 a1 a2 a3 a4 a5 : Value} (h : w.heap[b]? = some (.cells #[a0, a1, a2, a3, a4, a5] t (0, 0))) :
    w.cell? ⟨b, 0, none⟩ = some a0 ∧ w.cell? ⟨b, 1, none⟩ = some a1 ∧ w.cell? ⟨b, 2, none⟩ = some a2 ∧ w.cell? ⟨b, 3, none⟩ = some a3 ∧ w.cell? ⟨b, 4, none⟩ = some a4 ∧ w.cell? ⟨b, 5, none⟩ = some a5 :=
  ⟨by simp [World.cell?, h], by simp [World.cell?, h], by simp [World.cell?, h], by simp [World.cell?, h], by simp [World.cell?, h], by simp [World.cell?, h]⟩
theorem cells2 {w : World} {b : Nat} {t : TypeId} {a0 a1 : Value} (h : w.heap[b]? = some (.cells #[a0, a1] t (0, 0))) :
    w.cell? ⟨b, 0, none⟩ = some a0 ∧ w.cell? ⟨b, 1, none⟩ = some a1 :=
  ⟨by simp [World.cell?, h], by simp [World.cell?, h]⟩
theorem frozen0 {w : World} {b : Nat} {t : TypeId} {cs : Array Value} (h : w.heap[b]? = some (.cells cs t (0, 0))) (i : Nat) : w.frozen? ⟨b, i, none⟩ = false := by simp [World.frozen?, h]
theorem eql_span (a b a' b' : Int) (w : World) : (Op.equalIn 10000 54 (.agg #[.int .i64 a, .int .i64 b]) (.agg #[.int .i64 a', .int .i64 b'])).run Try.prog w = .ok (decide (a = a') && decide (b = b')) w := by
  rw [run_equalIn_struct w 9999 _ _ _ (by kernel_rfl) (by kernel_rfl)]
  simp only [Program.fieldsOf, Try.underlying54]
  simp [Op.eqFields, go_sem]
  by_cases h1 : a = a'
  · by_cases h2 : b = b'
    · simp [h1, h2]
    · simp [h1, h2]
  · simp [h1]
theorem run_neqS (a b a' b' : Int) (w : World) : (binOp .neq 54 (.agg #[.int .i64 a, .int .i64 b]) (.agg #[.int .i64 a', .int .i64 b'])).run Try.prog w = .ok (.bool (!(decide (a = a') && decide (b = b')))) w := by
  rw [run_neq_struct, eql_span]
  rfl
theorem retA {k : Nat} {res : Option Nat} (h : res = some k) : resA res = .tuple #[.int .i64 110, .int .i64 (k : Nat)] := by rw [h]; rfl
theorem taken_same {P : List Ak} {a : Ak} (hg : a.goodB = true) (h : spanOf P (a.prod, a.seq) = some (a.base, a.cnt)) (o : Nat) : taken (P ++ [a]) o = taken P o := by
  rw [taken_snoc]
  cases hc : covers o a with
  | false => rw [Bool.or_false]
  | true =>
    rw [Bool.or_true]
    obtain ⟨b, hb, hgb, e1, e2, e3⟩ := spanOf_some h
    have e3' : a.base = b.base ∧ a.cnt = b.cnt := by simpa using e3
    symm
    unfold taken
    rw [List.any_eq_true]
    refine ⟨b, hb, ?_⟩
    unfold covers at hc ⊢
    rw [hgb, ← e3'.1, ← e3'.2]
    rw [hg] at hc
    exact hc
theorem taken_new {P : List Ak} {a : Ak} {B C : Nat} (hg : a.goodB = true) (hB : a.base = (B : Nat)) (hC : a.cnt = (C : Nat)) : taken (P ++ [a]) = more (taken P) B (B + C) := by
  funext o
  rw [taken_snoc]
  unfold more covers
  rw [hg, hB, hC, Bool.true_and]
  congr 1
  rw [Bool.eq_iff_iff]
  simp only [Bool.and_eq_true, decide_eq_true_eq]
  omega
theorem AM.next {w W w' : World} {P : List Ak} {a : Ak} (hb : Below w.heap.size w W) (hm : IdMap w' w.heap.size (P.length + 1) (spanOf (P ++ [a]))) (ho : OffS W (w.heap.size + 1) ((P.length + 1) * 256) (taken (P ++ [a]))) (hg : W.grownBy w' (some w.heap.size)) (G : Goes (P ++ [a])) : AM w w' (P ++ [a]) := by
  refine ⟨by rw [List.length_append]; exact hm, ?_, G, bl_grown (Nat.le_refl _) hb hg (Nat.le_refl _)⟩
  rw [List.length_append]
  refine ho.block (hg.block _ ho.lt ?_)
  intro e
  have e' := Option.some.inj e
  omega
theorem AM.store {w W : World} {P : List Ak} {a : Ak} {p s : Int} (hm : IdMap W w.heap.size P.length (spanOf P)) (hg : a.goodB = true) (hp : isInt p) (hs : isInt s) (ep : a.prod = p) (es : a.seq = s) (hlen : P.length ≤ 140737488355328) :
    ∃ w', (Instr.mapUpdate 49 (.map (some w.heap.size)) (.agg #[.int .i64 p, .int .i64 s]) (.agg #[.int .i64 a.base, .int .i64 a.cnt])).run Try.prog W = .ok () w' ∧ IdMap w' w.heap.size (P.length + 1) (spanOf (P ++ [a])) ∧ W.grownBy w' (some w.heap.size) := by
  subst ep es
  exact hm.put kindI (a.prod, a.seq) (a.base, a.cnt) (keyI hp hs) (by unfold maxLen; omega) (spanOf (P ++ [a])) (by rw [spanOf_snoc, if_pos (by simp [atId, hg])]) (fun y hy => by
    rw [spanOf_snoc, if_neg]
    intro h
    unfold atId at h
    simp only [Bool.and_eq_true, decide_eq_true_eq] at h
    exact hy (Prod.ext h.2.1.symm h.2.2.symm))
set_option maxHeartbeats 2000000 in
theorem acks_ok (a : Option Addr) (cap : Nat) (L : List Ak) (w : World) (hin : AIn w a L) (hok : AOk L) (hlen : L.length ≤ 140737488355328) :
    Calls Try.prog 5 #[.slice a L.length cap] w fun e w' => e = .returned (resA (fbad [] L)) ∧ Below w.heap.size w w' := by
  have HIN : Hid (AIn w a L) := hin
  have HOK : Hid (AOk L) := hok
  obtain ⟨len, hl⟩ : ∃ len, L.length = len := ⟨_, rfl⟩
  have HL : Hid (L.length = len) := hl
  obtain ⟨res, hres⟩ : ∃ res, fbad [] L = res := ⟨_, rfl⟩
  have HRES : Hid (fbad [] L = res) := hres
  rw [hl] at hlen ⊢
  rw [hres]
  clear hin hok hl hres
  have HA : Hid (AM w ((w.alloc (.map #[] 0)).alloc (.map #[] 0)) []) := by
    have hz : (w.alloc (.map #[] 0)).heap.size = w.heap.size + 1 := by simp
    refine ⟨(MT.nil _ _ _ _ _ w).below (below_a _ _), ?_, Goes.nil, bl_alloc (Nat.le_refl _) (below_a _ _)⟩
    have h2 := MT.nil 3 inV woD woR (0 : Int) (w.alloc (.map #[] 0))
    rw [hz] at h2
    exact ⟨_, h2, fun q => ⟨0, rfl, by omega, fun j hj => by simp [taken]⟩⟩
  have hmm := @run_makeMap Try.prog
  go_enter Try.func5, Try.ntmps5
  go_wp2
  clear hmm
  go_loopw [15] (fun i wr => ∃ P R, L = P ++ R ∧ i = .int .i64 (P.length : Nat) ∧ fbad P R = res ∧ AM w wr P) (fun i _ => len - (intOf i).toNat)
  case atStart => exact ⟨[], L, rfl, rfl, HRES.out, HA.out⟩
  case round =>
    obtain ⟨P, R, hPR, rfl, hf, hA⟩ := hrel
    have HM : Hid (AM w wr P) := hA
    have HF : Hid (fbad P R = res) := hf
    have hwr : w.heap.size ≤ wr.heap.size := hA.bel.size
    clear hA hf
    cases R with
    | nil =>
      have hPL : P.length = len := by have := HL.out; rw [hPR, List.append_nil] at this; exact this
      clear hPR
      have HR : Hid (resA res = .tuple #[.int .i64 0, .int .i64 0]) := by rw [← HF.out]; rfl
      go_wp2_with fail
      go_ret2
      exact ⟨by rw [HR.out]; rfl, HM.out.bel⟩
    | cons x R =>
      have hlt : P.length < len := by have := HL.out; rw [hPR] at this; simp at this; omega
      have hx : L[P.length]? = some x := by rw [hPR]; simp
      obtain ⟨hxp, hxs⟩ := HOK.out x (by rw [hPR]; simp)
      have hin' : AIn wr a L := HIN.out.below HM.out.bel (Nat.le_refl _)
      obtain ⟨sb, so, rfl, hsb, c0, c1, c2, c3, c4, c5⟩ := hin' _ _ hx
      have HPR : Hid (L = P ++ x :: R) := hPR
      clear hPR hx hin'
      obtain ⟨st, p, s, er, b, c⟩ := x
      simp only at hxp hxs c0 c1 c2 c3 c4 c5
      have HG : Hid (∀ W, Calls Try.prog 9 #[.agg #[.int .i64 st, .int .i64 p, .int .i64 s, .int .i64 er, .int .i64 b, .int .i64 c]] W fun e w' => e = .returned (.bool (Ak.goodB ⟨st, p, s, er, b, c⟩)) ∧ Below W.heap.size W w') := fun W => isGood_ok ⟨st, p, s, er, b, c⟩ W
      obtain ⟨U, hU⟩ : ∃ U, wr.heap.size = U := ⟨_, rfl⟩
      have HB5 : Hid (Below wr.heap.size wr (wr.alloc (.cells #[.int .i64 st, .int .i64 p, .int .i64 s, .int .i64 er, .int .i64 b, .int .i64 c] 33)) ∧ (wr.alloc (.cells #[.int .i64 st, .int .i64 p, .int .i64 s, .int .i64 er, .int .i64 b, .int .i64 c] 33)).heap[U]? = some (.cells #[.int .i64 st, .int .i64 p, .int .i64 s, .int .i64 er, .int .i64 b, .int .i64 c] 33 (0, 0))) := by
        refine ⟨below_a _ _, ?_⟩
        rw [← hU]; exact heap_alloc_new _ _
      have HU : Hid (wr.heap.size = U) := hU
      go_upto_region 6 with fail
      clear hU
      generalize (wr.alloc (.cells #[.int .i64 st, .int .i64 p, .int .i64 s, .int .i64 er, .int .i64 b, .int .i64 c] 33)) = w5 at HB5
      clear c0 c1 c2 c3 c4 c5
      obtain ⟨d0, d1, d2, d3, d4, d5⟩ := cells6 HB5.out.2
      by_cases he : er = 0
      · subst he
        go_wp2_with fail
        refine (HG.out _).mono ?_
        rintro e w7 ⟨rfl, hb7⟩
        have HB7 : Hid (Below wr.heap.size wr w7 ∧ w7.heap[U]? = some (.cells #[.int .i64 st, .int .i64 p, .int .i64 s, .int .i64 0, .int .i64 b, .int .i64 c] 33 (0, 0))) := ⟨HB5.out.1.trans (hb7.mono HB5.out.1.size), (hb7.block U (lt_of_block HB5.out.2)).trans HB5.out.2⟩
        clear hb7 d0 d1 d2 d3 d4 d5
        obtain ⟨d0, d1, d2, d3, d4, d5⟩ := cells6 HB7.out.2
        obtain ⟨g, hg⟩ : ∃ g, Ak.goodB ⟨st, p, s, 0, b, c⟩ = g := ⟨_, rfl⟩
        have HGB : Hid (Ak.goodB ⟨st, p, s, 0, b, c⟩ = g) := hg
        rw [hg]
        clear hg
        cases g
        · have HR : Hid (resA res = .tuple #[.int .i64 110, .int .i64 (P.length : Nat)]) := retA (by rw [← HF.out, fbad_yes (bad_notgood rfl HGB.out)])
          go_wp2_with fail
          go_ret2
          exact ⟨by rw [HR.out]; rfl, HM.out.bel.trans (HB7.out.1.mono hwr)⟩
        · obtain ⟨_, hb0, hb1, hc0, hc1⟩ := (good_iff _).1 HGB.out
          simp only at hb0 hb1 hc0 hc1
          obtain ⟨B, rfl⟩ := Int.eq_ofNat_of_zero_le hb0
          obtain ⟨C, rfl⟩ := Int.eq_ofNat_of_zero_le (show (0 : Int) ≤ c by omega)
          obtain ⟨U9, hU9⟩ : ∃ U9, w7.heap.size = U9 := ⟨_, rfl⟩
          have HU9 : Hid (w7.heap.size = U9) := hU9
          have HB9 : Hid (Below wr.heap.size wr (w7.alloc (.cells #[.int .i64 (B : Nat), .int .i64 (C : Nat)] 54)) ∧ (w7.alloc (.cells #[.int .i64 (B : Nat), .int .i64 (C : Nat)] 54)).heap[U]? = some (.cells #[.int .i64 st, .int .i64 p, .int .i64 s, .int .i64 0, .int .i64 (B : Nat), .int .i64 (C : Nat)] 33 (0, 0)) ∧ (w7.alloc (.cells #[.int .i64 (B : Nat), .int .i64 (C : Nat)] 54)).heap[U9]? = some (.cells #[.int .i64 (B : Nat), .int .i64 (C : Nat)] 54 (0, 0))) := by
            refine ⟨HB7.out.1.trans ((below_a _ _).mono HB7.out.1.size), ((below_a w7 _).block U (lt_of_block HB7.out.2)).trans HB7.out.2, ?_⟩
            rw [← hU9]; exact heap_alloc_new _ _
          go_upto_region 10 with fail
          clear hU9
          generalize (w7.alloc (.cells #[.int .i64 (B : Nat), .int .i64 (C : Nat)] 54)) = w9 at HB9
          clear d0 d1 d2 d3 d4 d5
          obtain ⟨d0, d1, d2, d3, d4, d5⟩ := cells6 HB9.out.2.1
          have hl := ((HM.out.ids.below HB9.out.1).look kindI (p, s) (keyI hxp hxs)).1
          obtain ⟨o, ho⟩ : ∃ o, spanOf P (p, s) = o := ⟨_, rfl⟩
          have HO : Hid (spanOf P (p, s) = o) := ho
          rw [ho] at hl
          clear ho
          obtain ⟨U10, hU10⟩ : ∃ U10, w9.heap.size = U10 := ⟨_, rfl⟩
          have hS := (HM.out.ids.below HB9.out.1).below (below_a w9 (.cells #[.int .i64 0, .int .i64 0] 54))
          clear hS
          cases o with
          | none =>
            simp only [idV, Option.getD_none, Option.isSome_none] at hl
            have HB10 : Hid (Below wr.heap.size wr (w9.alloc (.cells #[.int .i64 0, .int .i64 0] 54)) ∧ (w9.alloc (.cells #[.int .i64 0, .int .i64 0] 54)).heap[U]? = some (.cells #[.int .i64 st, .int .i64 p, .int .i64 s, .int .i64 0, .int .i64 (B : Nat), .int .i64 (C : Nat)] 33 (0, 0)) ∧ (w9.alloc (.cells #[.int .i64 0, .int .i64 0] 54)).heap[U9]? = some (.cells #[.int .i64 (B : Nat), .int .i64 (C : Nat)] 54 (0, 0))) :=
              ⟨HB9.out.1.trans ((below_a _ _).mono HB9.out.1.size), ((below_a w9 _).block U (lt_of_block HB9.out.2.1)).trans HB9.out.2.1, ((below_a w9 _).block U9 (lt_of_block HB9.out.2.2)).trans HB9.out.2.2⟩
            go_upto_region 11 with fail
            clear hU10 hl
            generalize (w9.alloc (.cells #[.int .i64 0, .int .i64 0] 54)) = w10 at HB10
            clear d0 d1 d2 d3 d4 d5
            obtain ⟨d0, d1⟩ := cells2 HB10.out.2.2
            have HT : Hid (Calls Try.prog 10 #[.map (some (w.heap.size + 1)), .agg #[.int .i64 (B : Nat), .int .i64 (C : Nat)]] w10 fun e w' => ∃ b, e = .returned (.bool b) ∧ TakeE w10 (w.heap.size + 1) (P.length * 256) (taken P) B C b w') := take_ok w10 _ _ _ B C (HM.out.offs.block (HB10.out.1.block _ HM.out.offs.lt)) (by omega) (by omega) (by omega) (by omega)
            go_wp2_with fail
            refine HT.out.mono ?_
            rintro e w11 ⟨b, rfl, hT⟩
            have HTE : Hid (TakeE w10 (w.heap.size + 1) (P.length * 256) (taken P) B C b w11) := hT
            clear hT
            have hWS : wr.heap.size ≤ w10.heap.size := HB10.out.1.size
            have hUne : U ≠ w.heap.size + 1 ∧ U9 ≠ w.heap.size + 1 := by
              have a1 := HM.out.offs.lt
              have a2 := HU.out
              have a3 := HU9.out
              have a4 := HB7.out.1.size
              omega
            have HB11 : Hid (Below w.heap.size w w11 ∧ w11.heap[U]? = some (.cells #[.int .i64 st, .int .i64 p, .int .i64 s, .int .i64 0, .int .i64 (B : Nat), .int .i64 (C : Nat)] 33 (0, 0)) ∧ w11.heap[U9]? = some (.cells #[.int .i64 (B : Nat), .int .i64 (C : Nat)] 54 (0, 0))) :=
              ⟨(HM.out.bel.trans (HB10.out.1.mono hwr)).trans (HTE.out.only.below (by omega) (by omega)), (HTE.out.only.block U (lt_of_block HB10.out.2.1) hUne.1).trans HB10.out.2.1, (HTE.out.only.block U9 (lt_of_block HB10.out.2.2) hUne.2).trans HB10.out.2.2⟩
            clear d0 d1
            cases b
            · have HR : Hid (resA res = .tuple #[.int .i64 110, .int .i64 (P.length : Nat)]) := by
                obtain ⟨o, h1, h2, h3⟩ := HTE.out.no rfl
                exact retA (by rw [← HF.out, fbad_yes (bad_met HGB.out rfl rfl HO.out h1 h2 h3)])
              go_wp2_with fail
              go_ret2
              exact ⟨by rw [HR.out]; rfl, HB11.out.1⟩
            · obtain ⟨d0, d1⟩ := cells2 HB11.out.2.2
              obtain ⟨y0, y1, y2, y3, y4, y5⟩ := cells6 HB11.out.2.1
              have hids : IdMap w11 w.heap.size P.length (spanOf P) := by
                have h10 := HM.out.ids.below HB10.out.1
                exact h10.block (HTE.out.only.block _ h10.lt (by omega))
              obtain ⟨w', hup, hm', hg'⟩ := AM.store (a := ⟨st, p, s, 0, B, C⟩) hids HGB.out hxp hxs rfl rfl (by omega)
              have HE : Hid (AM w w' (P ++ [⟨st, p, s, 0, B, C⟩]) ∧ fbad (P ++ [⟨st, p, s, 0, B, C⟩]) R = res) := by
                obtain ⟨t1, t2⟩ := HTE.out.yes rfl
                have hcl := no_new (P := P) (a := ⟨st, p, s, 0, B, C⟩) (B := B) (C := C) HGB.out rfl rfl HO.out t1
                refine ⟨AM.next HB11.out.1 hm' ?_ hg' (HM.out.goes.snoc HGB.out hcl), ?_⟩
                · rw [taken_new (B := B) (C := C) HGB.out rfl rfl, Nat.add_mul]
                  exact t2
                · rw [← HF.out, fbad_no (bad_no HGB.out hcl)]
              clear hm' hg' hids
              simp only at hup
              go_wp2_with fail
              exact ⟨⟨P ++ [⟨st, p, s, 0, B, C⟩], R, by rw [HPR.out, List.append_assoc]; rfl, by simp, HE.out.2, HE.out.1⟩, by simp [intOf]; omega⟩
          | some f =>
            obtain ⟨f1, f2⟩ := f
            simp only [idV, Option.getD_some, Option.isSome_some] at hl
            have HB10 : Hid (Below wr.heap.size wr (w9.alloc (.cells #[.int .i64 f1, .int .i64 f2] 54)) ∧ (w9.alloc (.cells #[.int .i64 f1, .int .i64 f2] 54)).heap[U]? = some (.cells #[.int .i64 st, .int .i64 p, .int .i64 s, .int .i64 0, .int .i64 (B : Nat), .int .i64 (C : Nat)] 33 (0, 0)) ∧ (w9.alloc (.cells #[.int .i64 f1, .int .i64 f2] 54)).heap[U9]? = some (.cells #[.int .i64 (B : Nat), .int .i64 (C : Nat)] 54 (0, 0)) ∧ (w9.alloc (.cells #[.int .i64 f1, .int .i64 f2] 54)).heap[U10]? = some (.cells #[.int .i64 f1, .int .i64 f2] 54 (0, 0))) := by
              refine ⟨HB9.out.1.trans ((below_a _ _).mono HB9.out.1.size), ((below_a w9 _).block U (lt_of_block HB9.out.2.1)).trans HB9.out.2.1, ((below_a w9 _).block U9 (lt_of_block HB9.out.2.2)).trans HB9.out.2.2, ?_⟩
              rw [← hU10]; exact heap_alloc_new _ _
            go_upto_region 11 with fail
            clear hU10 hl
            generalize (w9.alloc (.cells #[.int .i64 f1, .int .i64 f2] 54)) = w10 at HB10
            clear d0 d1 d2 d3 d4 d5
            obtain ⟨d0, d1⟩ := cells2 HB10.out.2.2.1
            obtain ⟨z0, z1⟩ := cells2 HB10.out.2.2.2
            have hne := run_neqS (B : Nat) (C : Nat) f1 f2 w10
            have HB11 : Hid (Below w.heap.size w w10) := HM.out.bel.trans (HB10.out.1.mono hwr)
            by_cases hf : (f1, f2) = ((B : Int), (C : Int))
            · obtain ⟨rfl, rfl⟩ : f1 = (B : Int) ∧ f2 = (C : Int) := by simpa using hf
              simp only [decide_true, Bool.and_self, Bool.not_true] at hne
              obtain ⟨y0, y1, y2, y3, y4, y5⟩ := cells6 HB10.out.2.1
              obtain ⟨w', hup, hm', hg'⟩ := AM.store (a := ⟨st, p, s, 0, B, C⟩) (HM.out.ids.below HB10.out.1) HGB.out hxp hxs rfl rfl (by omega)
              have HE : Hid (AM w w' (P ++ [⟨st, p, s, 0, B, C⟩]) ∧ fbad (P ++ [⟨st, p, s, 0, B, C⟩]) R = res) := by
                have hcl := no_same (P := P) (a := ⟨st, p, s, 0, B, C⟩) HM.out.goes HGB.out HO.out
                refine ⟨AM.next HB11.out hm' ?_ hg' (HM.out.goes.snoc HGB.out hcl), ?_⟩
                · rw [show taken (P ++ [⟨st, p, s, 0, B, C⟩]) = taken P from funext (taken_same HGB.out HO.out)]
                  exact (HM.out.offs.block (HB10.out.1.block _ HM.out.offs.lt)).mono (by omega)
                · rw [← HF.out, fbad_no (bad_no HGB.out hcl)]
              clear hm' hg' hf
              simp only at hup
              go_wp2_with fail
              exact ⟨⟨P ++ [⟨st, p, s, 0, B, C⟩], R, by rw [HPR.out, List.append_assoc]; rfl, by simp, HE.out.2, HE.out.1⟩, by simp [intOf]; omega⟩
            · have HR : Hid (resA res = .tuple #[.int .i64 110, .int .i64 (P.length : Nat)]) := retA (by rw [← HF.out, fbad_yes (bad_other (f := (f1, f2)) HGB.out HO.out hf)])
              clear hne
              by_cases h1 : (B : Int) = f1
              · have h2 : ¬ (C : Int) = f2 := fun h2 => hf (by rw [h1, h2])
                subst h1
                clear hf
                go_wp2_with fail
                go_ret2
                exact ⟨by rw [HR.out]; rfl, HB11.out⟩
              · clear hf
                go_wp2_with fail
                go_ret2
                exact ⟨by rw [HR.out]; rfl, HB11.out⟩
      · have hxe : (⟨st, p, s, er, b, c⟩ : Ak).err ≠ 0 := he
        have HE : Hid (AM w w5 (P ++ [⟨st, p, s, er, b, c⟩]) ∧ fbad (P ++ [⟨st, p, s, er, b, c⟩]) R = res) := by
          refine ⟨HM.out.skip ?_ HB5.out.1, by rw [← HF.out, fbad_no (bad_err hxe)]⟩
          simp [Ak.goodB, he]
        clear hxe
        go_wp2_with fail
        exact ⟨⟨P ++ [⟨st, p, s, er, b, c⟩], R, by rw [HPR.out, List.append_assoc]; rfl, by simp, HE.out.2, HE.out.1⟩, by simp [intOf]; omega⟩
end Go.Proofs.Ytebfpffilepfaaa
