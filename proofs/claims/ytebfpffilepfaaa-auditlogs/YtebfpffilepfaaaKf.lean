/- Layer 18: newDues walked. -/
import Derived.Test.YtebfpffilepfaaaKe
namespace Go.Proofs.Ytebfpffilepfaaa
open Go.RowKit Go.Maps Go.Shelf
set_option linter.unusedVariables false
set_option maxRecDepth 20000

/-- What newDues leaves. -/
def NewD (w : World) (a : Option Addr) (cap : Nat) (L : List Due) (e : Ending) (w' : World) : Prop :=
  ∃ D lv g T, e = .returned (.pointer (some ⟨D, 0, none⟩)) ∧ DS w' D a cap L lv g T ∧ Tree L lv T ∧ w.heap.size ≤ D ∧ w.heap.size ≤ g ∧ D ≠ g ∧ Below w.heap.size w w'
/-- While the tree is filled. -/
structure ND (w wr : World) (a : Option Addr) (cap len lv n2 : Nat) (D g : Nat) (T : Nat → Int) : Prop where
  blk : wr.heap[D]? = some (.cells #[.slice a len cap, .int .i64 (lv : Nat), .slice (some ⟨g, 0, none⟩) n2 n2] 79 (0, 0))
  tb : TB wr g n2 T
  ne : D ≠ g
  hD : w.heap.size ≤ D
  hg : w.heap.size ≤ g
  bel : Below w.heap.size w wr
theorem ND.set {w wr : World} {a : Option Addr} {cap len lv n2 D g : Nat} {T : Nat → Int} (h : ND w wr a cap len lv n2 D g T) (i : Nat) (x : Int) : ND w (wr.setCell ⟨g, i, none⟩ (.int .i64 x)) a cap len lv n2 D g (upd T i x) :=
  ⟨by rw [Below.heap_setCell _ _ _ _ h.ne]; exact h.blk, h.tb.set i x, h.ne, h.hD, h.hg, bl_set h.hg h.bel⟩
theorem ND.below {w wr w' : World} {a : Option Addr} {cap len lv n2 D g : Nat} {T : Nat → Int} (h : ND w wr a cap len lv n2 D g T) (hb : Below wr.heap.size wr w') : ND w w' a cap len lv n2 D g T :=
  ⟨(hb.block D (lt_of_block h.blk)).trans h.blk, h.tb.below hb, h.ne, h.hD, h.hg, h.bel.trans (hb.mono h.bel.size)⟩
theorem ND.drew {w wr : World} {a : Option Addr} {cap len lv n2 D g : Nat} {T : Nat → Int} (h : ND w wr a cap len lv n2 D g T) : ND w wr.drew a cap len lv n2 D g T := h.below (below_d _)
set_option maxHeartbeats 8000000 in
theorem newDues_ok (a : Option Addr) (cap : Nat) (L : List Due) (w : World) (hin : DIn w a L) (hup : DUp L) (hlen : L.length ≤ 100000000) :
    Calls Try.prog 15 #[.slice a L.length cap] w (NewD w a cap L) := by
  have HS : Hid (Calls Try.prog 19 #[.slice a L.length cap, cmpF] w fun e w' => e = .returned (.tuple #[]) ∧ Below w.heap.size w w') := sort_ok a cap L w hin hup (by omega)
  have HIN : Hid (DIn w a L) := hin
  obtain ⟨len, hl⟩ : ∃ len, L.length = len := ⟨_, rfl⟩
  have HL : Hid (L.length = len) := hl
  rw [hl] at hlen HS ⊢
  clear hin hup hl
  go_enter Try.func15, Try.ntmps15
  go_wp2_with fail
  refine HS.out.mono ?_
  rintro e w1 ⟨rfl, hb1⟩
  have HB1 : Hid (Below w.heap.size w w1) := hb1
  have hw1 : w.heap.size ≤ w1.heap.size := hb1.size
  clear hb1
  go_wp2_with fail
  go_loopw [3] (fun v wr => ∃ V : Nat, v = .int .i64 (V : Nat) ∧ 1 ≤ V ∧ V ≤ 2 * len + 1 ∧ wr = w1) (fun v _ => 2 * len + 2 - (intOf v).toNat)
  case atStart => exact ⟨1, rfl, by omega, by omega, rfl⟩
  case round =>
    obtain ⟨V, rfl, hV1, hV2, rfl⟩ := hrel
    by_cases hlt : V < len
    · have hlti : (V : Int) < (len : Int) := by omega
      go_wp2_with fail
      exact ⟨⟨2 * V, by go_num, by omega, by omega, trivial⟩, by simp [intOf]; omega⟩
    · have hlti : ¬ (V : Int) < (len : Int) := by omega
      obtain ⟨V2, hVV⟩ : ∃ V2, 2 * V = V2 := ⟨_, rfl⟩
      have hVi : (2 : Int) * (V : Int) = (V2 : Int) := by omega
      have hmk := make_ok V2 (by omega)
      have HN0 : Hid (ND w ((wr.alloc (.cells (icells V2 fun _ => 0) 3)).alloc (.cells #[.slice a len cap, .int .i64 (V : Nat), .slice (some ⟨wr.heap.size, 0, none⟩) V2 V2] 79)) a cap len V V2 (wr.heap.size + 1) wr.heap.size (fun _ => 0)) := by
        have hz : (wr.alloc (.cells (icells V2 fun _ => 0) 3)).heap.size = wr.heap.size + 1 := by simp
        refine ⟨?_, ?_, by omega, by omega, by omega, bl_alloc (Nat.le_refl _) (bl_alloc (Nat.le_refl _) HB1.out)⟩
        · rw [← hz]; exact heap_alloc_new _ _
        · unfold TB
          rw [(below_a _ _).block _ (by simp)]; exact heap_alloc_new _ _
      obtain ⟨g, hg⟩ : ∃ g, wr.heap.size = g := ⟨_, rfl⟩
      rw [hg] at HN0
      go_upto_region 6 with fail
      obtain ⟨D, hD⟩ : ∃ D, g + 1 = D := ⟨_, rfl⟩
      rw [hD] at HN0
      rw [hD]
      generalize ((wr.alloc (.cells (icells V2 fun _ => 0) 3)).alloc (.cells #[.slice a len cap, .int .i64 (V : Nat), .slice (some ⟨g, 0, none⟩) V2 V2] 79)) = w2 at HN0
      clear hD hg hmk hVi hlti HB1 hw1 HS
      go_wp2_with fail
      go_loopw [25] (fun i wr => ∃ (I : Nat) (T : Nat → Int), i = .int .i64 (I : Nat) ∧ I ≤ V ∧ ND w wr a cap len V V2 D g T ∧ ∀ j, j < I → T (V + j) = 9223372036854775807) (fun i _ => V - (intOf i).toNat)
      case atStart => exact ⟨0, _, rfl, by omega, HN0.out, fun j hj => by omega⟩
      case round =>
        obtain ⟨I, T, rfl, hI, hN, hT⟩ := hrel
        have HN : Hid (ND w wr a cap len V V2 D g T) := hN
        have HT : Hid (∀ j, j < I → T (V + j) = 9223372036854775807) := hT
        have hwr : w.heap.size ≤ wr.heap.size := hN.bel.size
        obtain ⟨c0, c1, c2⟩ := cells3 hN.blk
        clear hN hT
        by_cases hlt2 : I < V
        · have hlti2 : (I : Int) < (V : Int) := by omega
          obtain ⟨P, hP⟩ : ∃ P, V + I = P := ⟨_, rfl⟩
          have hPi : (V : Int) + (I : Int) = (P : Int) := by omega
          have hPl : P < V2 := by omega
          have t0 := HN.out.tb.cell hPl
          have tf := HN.out.tb.frozen P
          have HE : Hid (ND w (wr.setCell ⟨g, P, none⟩ (.int .i64 9223372036854775807)) a cap len V V2 D g (upd T P 9223372036854775807) ∧ ∀ j, j < I + 1 → upd T P 9223372036854775807 (V + j) = 9223372036854775807) := by
            refine ⟨HN.out.set P _, fun j hj => ?_⟩
            unfold upd
            by_cases hjI : V + j = P
            · rw [if_pos hjI]
            · rw [if_neg hjI]; exact HT.out j (by omega)
          go_wp2_with fail
          exact ⟨⟨I + 1, _, by go_num, by omega, HE.out.1, HE.out.2⟩, by simp [intOf]; omega⟩
        · have hlti2 : ¬ (I : Int) < (V : Int) := by omega
          have hIV : I = V := by omega
          have HT2 : Hid (∀ j, j < V → T (V + j) = 9223372036854775807) := by rw [hIV] at HT; exact HT
          clear c0 c1 c2
          go_wp2_with fail
          go_loopw [39] (fun i wr => ∃ (I : Nat) (T : Nat → Int), i = .int .i64 (I : Nat) ∧ I ≤ len ∧ ND w wr a cap len V V2 D g T ∧ (∀ j d, j < I → L[j]? = some d → T (V + j) = d.step) ∧ ∀ j, I ≤ j → j < V → T (V + j) = 9223372036854775807) (fun i _ => len - (intOf i).toNat)
          case atStart => exact ⟨0, _, rfl, by omega, HN.out, fun j d hj => by omega, fun j _ hj => HT2.out j hj⟩
          case round =>
            obtain ⟨I, T, rfl, hI, hN, hT, hT'⟩ := hrel
            have HN : Hid (ND w wr a cap len V V2 D g T) := hN
            have HT : Hid ((∀ j d, j < I → L[j]? = some d → T (V + j) = d.step) ∧ ∀ j, I ≤ j → j < V → T (V + j) = 9223372036854775807) := ⟨hT, hT'⟩
            have hwr : w.heap.size ≤ wr.heap.size := hN.bel.size
            clear hN hT hT'
            by_cases hlt3 : I < len
            · have hlti3 : (I : Int) < (len : Int) := by omega
              have hx : L[I]? = some (L[I]'(by have := HL.out; omega)) := List.getElem?_eq_getElem _
              generalize (L[I]'(by have := HL.out; omega)) = x at hx
              have HX : Hid (L[I]? = some x) := hx
              obtain ⟨xb, xo, rfl, hxb, x0, x1, x2, x3, x4⟩ := HIN.out.bel HN.out.bel I x hx
              clear hx
              obtain ⟨P, hP⟩ : ∃ P, V + I = P := ⟨_, rfl⟩
              have hPi : (V : Int) + (I : Int) = (P : Int) := by omega
              have hPl : P < V2 := by omega
              obtain ⟨U, hU⟩ : ∃ U, wr.heap.size = U := ⟨_, rfl⟩
              have HN5 : Hid (ND w (wr.alloc (.cells #[.int .i64 x.rec'.off, .string x.rec'.key, .string x.rec'.val, .bool x.rec'.gone, .int .i64 x.step] 74)) (some ⟨xb, xo, none⟩) cap len V V2 D g T ∧ (wr.alloc (.cells #[.int .i64 x.rec'.off, .string x.rec'.key, .string x.rec'.val, .bool x.rec'.gone, .int .i64 x.step] 74)).heap[U]? = some (.cells #[.int .i64 x.rec'.off, .string x.rec'.key, .string x.rec'.val, .bool x.rec'.gone, .int .i64 x.step] 74 (0, 0))) := ⟨HN.out.below (below_a _ _), by rw [← hU]; exact heap_alloc_new _ _⟩
              go_upto_region 14 with fail
              clear hU
              generalize (wr.alloc (.cells #[.int .i64 x.rec'.off, .string x.rec'.key, .string x.rec'.val, .bool x.rec'.gone, .int .i64 x.step] 74)) = w5 at HN5
              clear x0 x1 x2 x3 x4
              obtain ⟨c0, c1, c2⟩ := cells3 HN5.out.1.blk
              obtain ⟨d0, d1, d2, d3, d4⟩ := cells5 HN5.out.2
              have t0 := HN5.out.1.tb.cell hPl
              have tf := HN5.out.1.tb.frozen P
              have HE : Hid (ND w (w5.setCell ⟨g, P, none⟩ (.int .i64 x.step)) (some ⟨xb, xo, none⟩) cap len V V2 D g (upd T P x.step) ∧ (∀ j d, j < I + 1 → L[j]? = some d → upd T P x.step (V + j) = d.step) ∧ ∀ j, I + 1 ≤ j → j < V → upd T P x.step (V + j) = 9223372036854775807) := by
                refine ⟨HN5.out.1.set P _, fun j d hj hd => ?_, fun j hj hj' => ?_⟩
                · unfold upd
                  by_cases hjI : V + j = P
                  · have hji : j = I := by omega
                    subst hji
                    rw [HX.out] at hd
                    cases hd
                    rw [if_pos hjI]
                  · rw [if_neg hjI]; exact HT.out.1 j d (by omega) hd
                · unfold upd
                  rw [if_neg (by omega)]
                  exact HT.out.2 j (by omega) hj'
              go_wp2_with fail
              go_region
              go_wp2_with fail
              exact ⟨⟨I + 1, _, by go_num, by omega, HE.out.1.drew, HE.out.2.1, HE.out.2.2⟩, by simp [intOf]; omega⟩
            · have hlti3 : ¬ (I : Int) < (len : Int) := by omega
              have hIl : I = len := by omega
              have HT3 : Hid ((∀ j d, L[j]? = some d → T (V + j) = d.step) ∧ ∀ j, len ≤ j → j < V → T (V + j) = 9223372036854775807) := by
                rw [hIl] at HT
                refine ⟨fun j d hd => HT.out.1 j d (by have := (List.getElem?_eq_some_iff.1 hd).1; have := HL.out; omega) hd, HT.out.2⟩
              obtain ⟨I0, hI0⟩ : ∃ I0, I0 + 1 = V := ⟨V - 1, by omega⟩
              have hI0i : (V : Int) - 1 = (I0 : Int) := by omega
              go_upto_region 17 with fail
              try rw [hI0i]
              clear hI0i
              go_wp2_with fail
              go_loopw [8] (fun i wr => ∃ (I : Nat) (T : Nat → Int), i = .int .i64 (I : Nat) ∧ I + 1 ≤ V ∧ ND w wr a cap len V V2 D g T ∧ (∀ j d, L[j]? = some d → T (V + j) = d.step) ∧ (∀ j, len ≤ j → j < V → T (V + j) = 9223372036854775807) ∧ ∀ j, I < j → j < V → T j = min (T (2 * j)) (T (2 * j + 1))) (fun i _ => (intOf i).toNat)
              case atStart => exact ⟨I0, _, rfl, by omega, HN.out, HT3.out.1, HT3.out.2, fun j h1 h2 => by omega⟩
              case round =>
                obtain ⟨I, T, rfl, hI, hN, hT1, hT2, hT3⟩ := hrel
                have HN : Hid (ND w wr a cap len V V2 D g T) := hN
                have HT : Hid ((∀ j d, L[j]? = some d → T (V + j) = d.step) ∧ (∀ j, len ≤ j → j < V → T (V + j) = 9223372036854775807) ∧ ∀ j, I < j → j < V → T j = min (T (2 * j)) (T (2 * j + 1))) := ⟨hT1, hT2, hT3⟩
                have hwr : w.heap.size ≤ wr.heap.size := hN.bel.size
                clear hN hT1 hT2 hT3
                by_cases hlt4 : 0 < I
                · have hlti4 : (I : Int) > 0 := by omega
                  obtain ⟨c0, c1, c2⟩ := cells3 HN.out.blk
                  obtain ⟨A1, hA1⟩ : ∃ A1, 2 * I = A1 := ⟨_, rfl⟩
                  obtain ⟨A2, hA2⟩ : ∃ A2, A1 + 1 = A2 := ⟨_, rfl⟩
                  have hA1i : (2 : Int) * (I : Int) = (A1 : Int) := by omega
                  have hA2i : (A1 : Int) + 1 = (A2 : Int) := by omega
                  have b0 : I < V2 := by omega
                  have b1 : A1 < V2 := by omega
                  have b2 : A2 < V2 := by omega
                  have t0 := HN.out.tb.cell b0
                  have t1 := HN.out.tb.cell b1
                  have t2 := HN.out.tb.cell b2
                  have tf := HN.out.tb.frozen I
                  obtain ⟨x1, hx1⟩ : ∃ x1, T A1 = x1 := ⟨_, rfl⟩
                  obtain ⟨x2, hx2⟩ : ∃ x2, T A2 = x2 := ⟨_, rfl⟩
                  have HX : Hid (T A1 = x1 ∧ T A2 = x2) := ⟨hx1, hx2⟩
                  rw [hx1] at t1
                  rw [hx2] at t2
                  clear hx1 hx2
                  obtain ⟨y, hy⟩ : ∃ y, min x1 x2 = y := ⟨_, rfl⟩
                  have hym : (if x2 < x1 then x2 else x1) = y := by rw [← hy]; split <;> omega
                  have HE : Hid (ND w (wr.setCell ⟨g, I, none⟩ (.int .i64 y)) a cap len V V2 D g (upd T I y) ∧ (∀ j d, L[j]? = some d → upd T I y (V + j) = d.step) ∧ (∀ j, len ≤ j → j < V → upd T I y (V + j) = 9223372036854775807) ∧ ∀ j, I - 1 < j → j < V → upd T I y j = min (upd T I y (2 * j)) (upd T I y (2 * j + 1))) := by
                    refine ⟨HN.out.set I _, fun j d hd => ?_, fun j h1 h2 => ?_, fun j h1 h2 => ?_⟩
                    · unfold upd; rw [if_neg (by omega)]; exact HT.out.1 j d hd
                    · unfold upd; rw [if_neg (by omega)]; exact HT.out.2.1 j h1 h2
                    · unfold upd
                      rw [if_neg (show ¬ 2 * j = I by omega), if_neg (show ¬ 2 * j + 1 = I by omega)]
                      by_cases hj : j = I
                      · subst hj
                        rw [if_pos rfl, hA1, hA2, HX.out.1, HX.out.2, hy]
                      · rw [if_neg hj]; exact HT.out.2.2 j (by omega) h2
                  go_wp2_with fail
                  go_region
                  go_wp2_with fail
                  exact ⟨⟨I - 1, _, by congr 1; omega, by omega, HE.out.1.drew, HE.out.2.1, HE.out.2.2.1, HE.out.2.2.2⟩, by simp [intOf]; omega⟩
                · have hlti4 : ¬ (I : Int) > 0 := by omega
                  have HE : Hid (NewD w a cap L (.returned (.pointer (some ⟨D, 0, none⟩))) wr) := by
                    have hb := HN.out.blk
                    have ht := HN.out.tb
                    rw [← hVV] at hb ht
                    refine ⟨D, V, g, T, rfl, ⟨by rw [HL.out]; exact hb, HIN.out.bel HN.out.bel, ht, by omega, by rw [HL.out]; omega, by omega⟩, ⟨fun i d hd => HT.out.1 i d hd, fun i h1 h2 => HT.out.2.1 i (by rw [HL.out] at h1; exact h1) h2, fun i h1 h2 => HT.out.2.2 i (by omega) h2⟩, HN.out.hD, HN.out.hg, HN.out.ne, HN.out.bel⟩
                  go_wp2_with fail
                  go_ret
                  exact HE.out
end Go.Proofs.Ytebfpffilepfaaa
