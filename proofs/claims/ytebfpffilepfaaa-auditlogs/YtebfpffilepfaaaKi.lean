/- Layer 18: lackIn walked. -/
import Derived.Test.YtebfpffilepfaaaKh
import Derived.Test.YtebfpffilepfaaaUi
namespace Go.Proofs.Ytebfpffilepfaaa
open Go.RowKit Go.Maps Go.Shelf
set_option linter.unusedVariables false
set_option maxRecDepth 20000

/-- A call answers a Bool, and leaves what there was. -/
def RetD (Z : Prop) (w : World) (e : Ending) (w' : World) : Prop := ∃ t : Bool, e = .returned (.bool t) ∧ (t = true ↔ Z) ∧ Below w.heap.size w w'
/-- A due that is gone over is not among records. -/
def Lacks (L : List Due) (fr : Int) (M : List Rec) : Prop := ∃ z, M.getLast? = some z ∧ ∃ d ∈ L, fr ≤ d.off ∧ d.off ≤ z.off ∧ d.rec' ∉ M
set_option maxHeartbeats 8000000 in
theorem lackIn_low (D : Nat) (a : Option Addr) (cap : Nat) (L : List Due) (lv g : Nat) (T : Nat → Int) (st nd fr er : Int) (ra : Option Addr) (rc : Nat) (M : List Rec) (w : World) (h : DS w D a cap L lv g T) (ht : Tree L lv T) (hup : DUp L) (hdo : ∀ d ∈ L, d.rec'.ok) (hs : ∀ d ∈ L, d.step < st) (hri : RIn w ra M) (hro : ROk M) (hml : M.length ≤ 1000000000) :
    Calls Try.prog 18 #[.pointer (some ⟨D, 0, none⟩), .agg #[.int .i64 st, .int .i64 nd, .int .i64 fr, .int .i64 er, .slice ra M.length rc]] w (RetD (Lacks L fr M) w) := by
  have HP : Hid (∀ W, Below w.heap.size w W → Calls Try.prog 25 #[.pointer (some ⟨D, 0, none⟩), .int .i64 fr] W fun e w' => ∃ p : Nat, e = .returned (.int .i64 (p : Nat)) ∧ below' L fr p ∧ Below W.heap.size W w') := fun W hb => place_ok D a cap L lv g T fr W (h.below hb) hup
  have HX : Hid (∀ W (p : Nat), Below w.heap.size w W → p ≤ L.length → Calls Try.prog 24 #[.pointer (some ⟨D, 0, none⟩), .int .i64 (p : Nat), .int .i64 st] W fun e w' => e = .returned (.int .i64 (p : Nat)) ∧ w' = W) := fun W p hb hp => by
    have := next_low D a cap L lv g T p st W (h.below hb) ht hs (by have := h.le; have := h.big; omega)
    rwa [show min p L.length = p by omega] at this
  have HD : Hid (DS w D a cap L lv g T) := h
  have HDI : Hid (DIn w a L) := h.list
  have hlb : L.length ≤ 1000000000 := by have := h.le; have := h.big; omega
  have HUP : Hid (DUp L) := hup
  have HDO : Hid (∀ d ∈ L, d.rec'.ok) := hdo
  have HRI : Hid (RIn w ra M) := hri
  have HRO : Hid (ROk M) := hro
  obtain ⟨c0, c1, c2⟩ := cells3 h.blk
  have HC0 : Hid (w.cell? ⟨D, 0, none⟩ = some (.slice a L.length cap)) := c0
  obtain ⟨Z, hZ⟩ : ∃ Z, Lacks L fr M = Z := ⟨_, rfl⟩
  have HZ : Hid (Lacks L fr M = Z) := hZ
  obtain ⟨len, hl⟩ : ∃ len, L.length = len := ⟨_, rfl⟩
  have HL : Hid (L.length = len) := hl
  obtain ⟨ml, hmle⟩ : ∃ ml, M.length = ml := ⟨_, rfl⟩
  have HML : Hid (M.length = ml) := hmle
  rw [hl] at HX HC0 hlb
  rw [hmle] at hml ⊢
  rw [hZ]
  clear h ht hup hdo hs hri hro hl hmle hZ c0 c1 c2
  have HBX : Hid (Below w.heap.size w (w.alloc (.cells #[.int .i64 st, .int .i64 nd, .int .i64 fr, .int .i64 er, .slice ra ml rc] 40)) ∧ (w.alloc (.cells #[.int .i64 st, .int .i64 nd, .int .i64 fr, .int .i64 er, .slice ra ml rc] 40)).heap[w.heap.size]? = some (.cells #[.int .i64 st, .int .i64 nd, .int .i64 fr, .int .i64 er, .slice ra ml rc] 40 (0, 0))) := ⟨below_a _ _, heap_alloc_new _ _⟩
  go_enter Try.func18, Try.ntmps18
  go_upto_region 1 with fail
  generalize (w.alloc (.cells #[.int .i64 st, .int .i64 nd, .int .i64 fr, .int .i64 er, .slice ra ml rc] 40)) = wb at HBX
  obtain ⟨f0, f1, f2, f3, f4⟩ := cells5 HBX.out.2
  by_cases hz : ml = 0
  · subst hz
    have HE : Hid (¬ Z) := by
      show ¬ Z
      rw [← HZ.out, List.length_eq_zero_iff.1 HML.out]
      rintro ⟨z, h, _⟩
      simp at h
    go_wp2_with fail
    go_ret
    exact ⟨false, rfl, ⟨fun h => (by cases h), fun h => absurd h HE.out⟩, HBX.out.1⟩
  · obtain ⟨m1, rfl⟩ : ∃ m1, ml = m1 + 1 := ⟨ml - 1, by omega⟩
    have hzi : (((m1 + 1 : Nat) : Int) == 0) = false := by simp; omega
    have hm1 : ((m1 + 1 : Nat) : Int) - 1 = (m1 : Int) := by omega
    have hzz : M[m1]? = some (M[m1]'(by have := HML.out; omega)) := List.getElem?_eq_getElem _
    generalize (M[m1]'(by have := HML.out; omega)) = z at hzz
    have hla : M.getLast? = some z := by rw [List.getLast?_eq_getElem?, HML.out]; exact hzz
    have HLA : Hid (M.getLast? = some z) := hla
    obtain ⟨rb, ro, rfl, hrb, z0, z1, z2, z3⟩ := HRI.out.bel HBX.out.1 _ _ hzz
    clear hzz hla z1 z2 z3
    obtain ⟨la, hla⟩ : ∃ la, z.off = la := ⟨_, rfl⟩
    have HLF : Hid (z.off = la) := hla
    rw [hla] at z0
    clear hla
    go_upto_region 4 with fail
    refine wp_region_held_drew (S := fun w' => w'.cell? ⟨w.heap.size, 0, none⟩ = some (.int .i64 st) ∧ w'.cell? ⟨w.heap.size, 2, none⟩ = some (.int .i64 fr)) (by kernel_rfl) ⟨f0, f2⟩ (fun hHeld => ?_)
    refine wpAnyH_take (i := 0) (v := ?v0a) rfl (by kernel_rfl) (by kernel_rfl) (by kernel_rfl) (fun _ _ _ h => h) (Or.inl ⟨by rfl, fun w hSw => ?hy0a⟩) hHeld ?rest0a
    case hy0a =>
      try dsimp only at hSw
      go_simp
      try with_reducible rfl
    simp only [Act.put, List.setIfInBounds_toArray, List.set_cons_zero, List.set_cons_succ, List.getElem_toArray, List.getElem_cons_zero]
    refine wpAnyH_take (i := 1) (v := ?v1a) rfl (by kernel_rfl) (by kernel_rfl) (by kernel_rfl) (fun _ _ _ h => h) (Or.inl ⟨by rfl, fun w hSw => ?hy1a⟩) hHeld ?rest1a
    case hy1a =>
      try dsimp only at hSw
      go_simp
      try with_reducible rfl
    simp only [Act.put, List.setIfInBounds_toArray, List.set_cons_zero, List.set_cons_succ, List.getElem_toArray, List.getElem_cons_zero, List.getElem_cons_succ]
    refine wpAnyH_take (i := 2) (v := ?v2a) rfl (by kernel_rfl) (by kernel_rfl) (by kernel_rfl) (fun _ _ _ h => h) (Or.inl ⟨by rfl, fun w hSw => ?hy2a⟩) hHeld ?rest2a
    case hy2a =>
      try dsimp only at hSw
      go_simp
      try with_reducible rfl
    simp only [Act.put, List.setIfInBounds_toArray, List.set_cons_zero, List.set_cons_succ, List.getElem_toArray, List.getElem_cons_zero, List.getElem_cons_succ]
    refine wpAnyH_take (i := 3) (v := ?v3a) rfl (by kernel_rfl) (by kernel_rfl) (by kernel_rfl) (fun _ _ _ h => h) (Or.inl ⟨by rfl, fun w hSw => ?hy3a⟩) hHeld ?rest3a
    case hy3a =>
      try dsimp only at hSw
      go_simp
      try with_reducible rfl
    simp only [Act.put, List.setIfInBounds_toArray, List.set_cons_zero, List.set_cons_succ, List.getElem_toArray, List.getElem_cons_zero, List.getElem_cons_succ]
    refine wpAnyH_take (i := 5) (v := ?v5a) rfl (by kernel_rfl) (by kernel_rfl) (by kernel_rfl) (fun _ _ _ h => h) (Or.inl ⟨by rfl, fun w hSw => ?hy5a⟩) hHeld ?rest5a
    case hy5a =>
      try dsimp only at hSw
      go_simp
      try with_reducible rfl
    simp only [Act.put, List.setIfInBounds_toArray, List.set_cons_zero, List.set_cons_succ, List.getElem_toArray, List.getElem_cons_zero, List.getElem_cons_succ]
    refine wpAnyH_take (i := 6) (v := ?v6a) rfl (by kernel_rfl) (by kernel_rfl) (by kernel_rfl) (fun _ _ _ h => h) (Or.inl ⟨by rfl, fun w hSw => ?hy6a⟩) hHeld ?rest6a
    case hy6a =>
      try dsimp only at hSw
      go_simp
      try with_reducible rfl
    simp only [Act.put, List.setIfInBounds_toArray, List.set_cons_zero, List.set_cons_succ, List.getElem_toArray, List.getElem_cons_zero, List.getElem_cons_succ]
    refine wpAnyH_ready (rs := [4]) (by kernel_rfl) (by simp) ?_
    refine AllReadyH.cons rfl (fun K hK => ?_) AllReadyH.nil
    go_simp
    refine (HP.out _ (bl_drew.2 HBX.out.1)).mono ?_
    rintro e w1 ⟨p, rfl, hp, hb1'⟩
    have hb1 : Below wb.heap.size wb w1 := ⟨hb1'.os, hb1'.tape, hb1'.output, hb1'.size, hb1'.block⟩
    have HQ : Hid (below' L fr p) := hp
    have HB1 : Hid (Below w.heap.size w w1) := HBX.out.1.trans (hb1.mono HBX.out.1.size)
    clear hp
    have HG : Hid (w1.cell? ⟨w.heap.size, 0, none⟩ = some (.int .i64 st) ∧ w1.cell? ⟨w.heap.size, 2, none⟩ = some (.int .i64 fr)) := ⟨cellB hb1 f0, cellB hb1 f2⟩
    have HSZ : Hid (w.heap.size < w1.heap.size) := Nat.lt_of_lt_of_le (lt_of_block HBX.out.2) hb1.size
    have HG4 : Hid (w1.cell? ⟨w.heap.size, 4, none⟩ = some (.slice (some ⟨rb, ro, none⟩) (m1 + 1) rc)) := cellB hb1 f4
    clear hHeld
    go_simp
    refine hK.out _ _ ⟨cellB hb1 f0, cellB hb1 f2⟩ (fun hHeld => ?_)
    clear hK
    clear hb1' hb1
    refine wpAnyH_ready (rs := [7]) (by kernel_rfl) (by simp) ?_
    refine AllReadyH.cons rfl (fun K hK => ?_) AllReadyH.nil
    go_simp
    refine (HX.out _ p HB1.out (by have := HQ.out.1; have := HL.out; omega)).mono ?_
    rintro e w2 ⟨rfl, hw⟩
    obtain rfl := hw.symm
    clear hw
    clear hHeld
    go_simp
    refine hK.out _ _ ⟨HG.out.1, HG.out.2⟩ (fun hHeld => ?_)
    clear hK
    refine wpAnyH_take (i := 8) (v := ?v8a) rfl (by kernel_rfl) (by kernel_rfl) (by kernel_rfl) (fun _ _ _ h => h) (Or.inl ⟨by rfl, fun w hSw => ?hy8a⟩) hHeld ?rest8a
    case hy8a =>
      try dsimp only at hSw
      go_simp
      try with_reducible rfl
    simp only [Act.put, List.setIfInBounds_toArray, List.set_cons_zero, List.set_cons_succ, List.getElem_toArray, List.getElem_cons_zero, List.getElem_cons_succ]
    refine wpAnyH_done (by kernel_rfl) ?_ _
    clear z0 f0 f1 f2 f3 f4 hrb
    have hpl : p ≤ len := by have := HQ.out.1; rw [HL.out] at this; exact this
    have d0 := cellB HB1.out HC0.out
    obtain ⟨g0, g2⟩ := HG.out
    have g4 := HG4.out
    have hsw1 : w.heap.size ≤ w1.heap.size := HB1.out.size
    by_cases hpe : p = len
    · have hpb : ((p : Int) == (len : Int)) = true := by simp [hpe]
      have HE : Hid (¬ Z) := by
        show ¬ Z
        rw [← HZ.out]
        rintro ⟨z', hz', d, hd, h1, h2, h3⟩
        obtain ⟨i, hi, rfl⟩ := List.mem_iff_getElem.1 hd
        have := HQ.out.2.1 i _ (List.getElem?_eq_getElem hi) (by have := HL.out; omega)
        omega
      go_wp2_with fail
      go_ret
      exact ⟨false, rfl, ⟨fun h => (by cases h), fun h => absurd h HE.out⟩, HB1.out⟩
    · have hpb : ((p : Int) == (len : Int)) = false := by simp; omega
      have hpl2 : p < len := by omega
      have hy : L[p]? = some (L[p]'(by have := HL.out; omega)) := List.getElem?_eq_getElem _
      generalize (L[p]'(by have := HL.out; omega)) = y at hy
      obtain ⟨lb, lo, rfl, hlb2, y0, _⟩ := HDI.out.bel HB1.out p y hy
      by_cases hyl : y.off > la
      · have HE : Hid (¬ Z) := by
          show ¬ Z
          rw [← HZ.out]
          rintro ⟨z', hz', d, hd, h1, h2, h3⟩
          rw [HLA.out] at hz'
          cases hz'
          have hzl := HLF.out
          obtain ⟨i, hi, rfl⟩ := List.mem_iff_getElem.1 hd
          have hgi := List.getElem?_eq_getElem hi
          by_cases hip : i < p
          · have := HQ.out.2.1 i _ hgi hip
            omega
          · by_cases hie : i = p
            · subst hie
              rw [hgi] at hy
              cases hy
              omega
            · have := HUP.out.lt hy hgi (by omega)
              omega
        clear hy
        go_wp2_with fail
        go_ret
        exact ⟨false, rfl, ⟨fun h => (by cases h), fun h => absurd h HE.out⟩, HB1.out⟩
      · have HDIW : Hid (DIn w (some ⟨lb, lo, none⟩) L) := HDI.out
        clear hy
        obtain ⟨mb, hmb⟩ : ∃ mb, w1.heap.size = mb := ⟨_, rfl⟩
        have HMB : Hid (w1.heap.size = mb) := hmb
        have HBM : Hid (Below w.heap.size w (w1.alloc (.map #[] 0)) ∧ TxS (w1.alloc (.map #[] 0)) mb 0 []) := ⟨bl_alloc (Nat.le_refl _) HB1.out, by rw [← HMB.out]; exact ⟨_, MT.nil _ _ _ _ _ w1, fun r => by simp⟩⟩
        have hmm := @run_makeMap Try.prog
        have g4' : (w1.alloc (.map #[] 0)).cell? ⟨w.heap.size, 4, none⟩ = some (.slice (some ⟨rb, ro, none⟩) (m1 + 1) rc) := cellB (below_a w1 _) g4
        go_upto_region 8 with fail
        clear hmm hmb HD d0 y0 g0 g2 g4 HP hHeld
        have hm0 : w.heap.size < mb := by rw [← HMB.out]; exact HSZ.out
        have hF0 : Hid ((w1.alloc (.map #[] 0)).cell? ⟨w.heap.size, 0, none⟩ = some (.int .i64 st)) := cellB (below_a w1 _) HG.out.1
        have HWS : Hid (w.heap.size < (w1.alloc (.map #[] 0)).heap.size) := Nat.lt_of_lt_of_le HSZ.out (below_a w1 _).size
        generalize (w1.alloc (.map #[] 0)) = wm at HBM g4' hF0 HWS
        have hmn : m1 + 1 ≤ 1000000000 := hml
        obtain ⟨ml, hmle⟩ : ∃ ml, m1 + 1 = ml := ⟨_, rfl⟩
        have hmi : ((m1 : Int) + 1) = (ml : Int) := by omega
        rw [hmle] at g4' HML hml
        rw [hmle, hmi]
        go_wp2_with fail
        clear g4'
        go_loopw [57] (fun i wr => ∃ Q R, M = Q ++ R ∧ i = .int .i64 (Q.length : Nat) ∧ TxS wr mb Q.length Q ∧ Below w.heap.size w wr ∧ wr.cell? ⟨w.heap.size, 0, none⟩ = some (.int .i64 st) ∧ w.heap.size < wr.heap.size) (fun i _ => ml - (intOf i).toNat)
        case atStart => exact ⟨[], M, rfl, rfl, HBM.out.2, HBM.out.1, hF0.out, HWS.out⟩
        case round =>
          obtain ⟨Q, R, hQR, rfl, hT, hB, hf0, hws⟩ := hrel
          have HB : Hid (Below w.heap.size w wr) := hB
          have HT : Hid (TxS wr mb Q.length Q) := hT
          have HF : Hid (wr.cell? ⟨w.heap.size, 0, none⟩ = some (.int .i64 st)) := hf0
          have HW : Hid (w.heap.size < wr.heap.size) := hws
          have hwr : w.heap.size ≤ wr.heap.size := hB.size
          clear hT hf0 hws
          cases R with
          | cons x R =>
            have hlt : Q.length < ml := by have := HML.out; rw [hQR] at this; simp at this; omega
            have hx : M[Q.length]? = some x := by rw [hQR]; simp
            have hxo := HRO.out x (by rw [hQR]; simp)
            obtain ⟨xb, xo, he, hxb, e0, e1, e2, e3⟩ := HRI.out.bel hB _ _ hx
            cases he
            have HQR : Hid (M = Q ++ x :: R) := hQR
            have HXO : Hid x.ok := hxo
            clear hQR hx hxo hB
            obtain ⟨o, k, v, gn⟩ := x
            simp only at e0 e1 e2 e3
            have HB7 : Hid (Below wr.heap.size wr (wr.alloc (.cells #[.int .i64 o, .string k, .string v, .bool gn] 36)) ∧ (wr.alloc (.cells #[.int .i64 o, .string k, .string v, .bool gn] 36)).heap[wr.heap.size]? = some (.cells #[.int .i64 o, .string k, .string v, .bool gn] 36 (0, 0))) := ⟨below_a _ _, heap_alloc_new _ _⟩
            go_upto_region 11 with fail
            generalize (wr.alloc (.cells #[.int .i64 o, .string k, .string v, .bool gn] 36)) = w7 at HB7
            clear e0 e1 e2 e3
            obtain ⟨q0, q1, q2, q3⟩ := cells4 HB7.out.2
            have hf7 := cellB HB7.out.1 HF.out
            obtain ⟨w', hup, hT', hg'⟩ := (HT.out.below HB7.out.1).put HXO.out (by omega)
            have HE : Hid (TxS w' mb (Q ++ [(⟨o, k, v, gn⟩ : Rec)]).length (Q ++ [(⟨o, k, v, gn⟩ : Rec)]) ∧ Below w.heap.size w w' ∧ w'.cell? ⟨w.heap.size, 0, none⟩ = some (.int .i64 st) ∧ w.heap.size < w'.heap.size) := by
              refine ⟨by rw [List.length_append]; exact hT', bl_grown (Nat.le_refl _) (HB.out.trans (HB7.out.1.mono hwr)) hg' (Nat.le_of_lt hm0), ?_, ?_⟩
              · rw [World.cell?_of_block (hg'.block w.heap.size (Nat.lt_of_lt_of_le HW.out HB7.out.1.size) (fun e => by cases e; omega))]
                exact hf7
              · exact Nat.lt_of_lt_of_le HW.out (Nat.le_trans HB7.out.1.size hg'.size)
            simp only [Rec.v] at hup
            clear hT' hg' hf7
            go_wp2_with fail
            exact ⟨⟨Q ++ [⟨o, k, v, gn⟩], R, by rw [HQR.out, List.append_assoc]; rfl, by simp, HE.out.1, HE.out.2.1, HE.out.2.2.1, HE.out.2.2.2⟩, by simp [intOf]; omega⟩
          | nil =>
            have hQM : Q = M := by rw [hQR, List.append_nil]
            have hQl : Q.length = ml := by rw [hQM]; exact HML.out
            have HTM : Hid (TxS wr mb ml M) := by have := HT.out; rw [hQl, hQM] at this; exact this
            rw [hQl]
            clear HT hQR hQM hQl hB
            go_wp2_with fail
            go_loopw [6] (fun v wr => ∃ q : Nat, v = .int .i64 (q : Nat) ∧ p ≤ q ∧ q ≤ len ∧ (∀ i d, L[i]? = some d → p ≤ i → i < q → d.rec' ∈ M) ∧ Below w.heap.size w wr ∧ TxS wr mb ml M ∧ wr.cell? ⟨w.heap.size, 0, none⟩ = some (.int .i64 st)) (fun v _ => len - (intOf v).toNat)
            case atStart => exact ⟨p, rfl, by omega, by omega, fun i d _ h1 h2 => by omega, HB.out, HTM.out, HF.out⟩
            case round =>
              obtain ⟨q, rfl, hq1, hq2, hin, hB, hT, hf⟩ := hrel
              have HB2 : Hid (Below w.heap.size w wr) := hB
              have HT2 : Hid (TxS wr mb ml M) := hT
              have HIN : Hid (∀ i d, L[i]? = some d → p ≤ i → i < q → d.rec' ∈ M) := hin
              have hwr2 : w.heap.size ≤ wr.heap.size := hB.size
              have d0 := cellB hB HC0.out
              clear HB HTM HF HW hT hin
              by_cases hqe : q = len
              · have hql : ¬ (q : Int) < (len : Int) := by omega
                have hqd : decide (q < len) = false := decide_eq_false (by omega)
                have HE : Hid (¬ Z) := by
                  show ¬ Z
                  rw [← HZ.out]
                  rintro ⟨z', hz', d, hd, h1, h2, h3⟩
                  obtain ⟨i, hi, rfl⟩ := List.mem_iff_getElem.1 hd
                  have hgi := List.getElem?_eq_getElem hi
                  by_cases hip : i < p
                  · have := HQ.out.2.1 i _ hgi hip
                    omega
                  · exact h3 (HIN.out i _ hgi (by omega) (by have := HL.out; omega))
                go_wp2_with fail
                go_ret
                exact ⟨false, rfl, ⟨fun h => (by cases h), fun h => absurd h HE.out⟩, HB2.out⟩
              · have hql : (q : Int) < (len : Int) := by omega
                have hqd : decide (q < len) = true := decide_eq_true (by omega)
                have hy : L[q]? = some (L[q]'(by have := HL.out; omega)) := List.getElem?_eq_getElem _
                generalize (L[q]'(by have := HL.out; omega)) = y2 at hy
                have HY : Hid (L[q]? = some y2) := hy
                have hyo := HDO.out _ (List.mem_of_getElem? hy)
                obtain ⟨b', o', he, _, y0, y1, y2', y3, _⟩ := HDIW.out.bel hB q y2 hy
                cases he
                clear hy hB
                by_cases hyl2 : y2.off > la
                · have hyn : ¬ y2.off ≤ la := by omega
                  have HE : Hid (¬ Z) := by
                    show ¬ Z
                    rw [← HZ.out]
                    rintro ⟨z', hz', d, hd, h1, h2, h3⟩
                    rw [HLA.out] at hz'
                    cases hz'
                    have hzl := HLF.out
                    obtain ⟨i, hi, rfl⟩ := List.mem_iff_getElem.1 hd
                    have hgi := List.getElem?_eq_getElem hi
                    by_cases hip : i < p
                    · have := HQ.out.2.1 i _ hgi hip
                      omega
                    · by_cases hiq : i < q
                      · exact h3 (HIN.out i _ hgi (by omega) hiq)
                      · by_cases hie : i = q
                        · subst hie
                          have hy := HY.out
                          rw [hgi] at hy
                          cases hy
                          omega
                        · have := HUP.out.lt HY.out hgi (by omega)
                          omega
                  clear hyl2
                  go_wp2_with fail
                  go_ret
                  exact ⟨false, rfl, ⟨fun h => (by cases h), fun h => absurd h HE.out⟩, HB2.out⟩
                · have hyn : y2.off ≤ la := by omega
                  clear hyl2
                  have HYO : Hid y2.rec'.ok := hyo
                  have HYN : Hid (y2.off ≤ la) := hyn
                  obtain ⟨b, hb, hlk⟩ := HT2.out.look hyo
                  have HBB : Hid (b = true ↔ y2.rec' ∈ M) := hb
                  have HBA : Hid (∀ o, Below w.heap.size w (wr.alloc o) ∧ TxS (wr.alloc o) mb ml M ∧ (wr.alloc o).cell? ⟨w.heap.size, 0, none⟩ = some (.int .i64 st)) := fun o => ⟨bl_alloc (Nat.le_refl _) HB2.out, HT2.out.below (below_a _ _), cellB (below_a wr o) hf⟩
                  simp only [Rec.v] at hlk
                  clear hb hyo
                  cases b
                  · have HE : Hid Z := by
                      show Z
                      rw [← HZ.out]
                      refine ⟨z, HLA.out, y2, List.mem_of_getElem? HY.out, HQ.out.2.2 q _ HY.out hq1, ?_, fun h => by cases HBB.out.2 h⟩
                      have := HLF.out; have := HYN.out; omega
                    go_wp2_with fail
                    go_ret
                    exact ⟨true, rfl, ⟨fun _ => HE.out, fun _ => rfl⟩, (HBA.out _).1⟩
                  · have HM2 : Hid (∀ i d, L[i]? = some d → p ≤ i → i < q + 1 → d.rec' ∈ M) := fun i d hd h1 h2 => by
                      by_cases hie : i = q
                      · subst hie
                        have := HY.out
                        rw [hd] at this
                        cases this
                        exact HBB.out.1 rfl
                      · exact HIN.out i d hd h1 (by omega)
                    have HW3 : Hid (Below w.heap.size w (wr.alloc (.cells #[] 69)) ∧ TxS (wr.alloc (.cells #[] 69)) mb ml M) := ⟨(HBA.out _).1, (HBA.out _).2.1⟩
                    have hf3 := (HBA.out (.cells #[] 69)).2.2
                    have HF3 : Hid ((wr.alloc (.cells #[] 69)).cell? ⟨w.heap.size, 0, none⟩ = some (.int .i64 st)) := hf3
                    have hqi : (q : Int) + 1 = ((q + 1 : Nat) : Int) := by omega
                    go_upto_region 17 with fail
                    generalize (wr.alloc (.cells #[] 69)) = w3 at HW3 hf3 HF3
                    obtain ⟨q', hq'⟩ : ∃ q', q + 1 = q' := ⟨_, rfl⟩
                    rw [hq'] at hqi HM2
                    go_wp2_with fail
                    refine (HX.out _ q' HW3.out.1 (by omega)).mono ?_
                    rintro e w4 ⟨rfl, hw⟩
                    obtain rfl := hw.symm
                    clear hw
                    go_wp2_with fail
                    exact ⟨⟨q', rfl, by omega, by omega, HM2.out, HW3.out.1, HW3.out.2, HF3.out⟩, by simp [intOf]; omega⟩
end Go.Proofs.Ytebfpffilepfaaa
