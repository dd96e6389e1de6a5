/- Layer 18: acked walked. -/
import Derived.Test.YtebfpffilepfaaaKl
namespace Go.Proofs.Ytebfpffilepfaaa
open Go.RowKit Go.Maps Go.Shelf
set_option linter.unusedVariables false
set_option maxRecDepth 20000

theorem step_due {w wr W w5 : World} {n m ml V g5 cap5 : Nat} {RA : List Ak} {O : List Due} {Q : List Rec} {v1 : Value} {st p s b x o : Int} {k v : ByteArray} {g : Bool} {ao : Obj} (hm : AkMap wr w.heap.size n (ofId RA)) (hV : wr.heap[V]? = some ao) (hD : DW w w.heap.size wr v1 (O ++ oneD ⟨st, p, s, 0, b, (ml : Nat)⟩ Q)) (hov : v1.ownBlock ≠ some V) (hb : Below wr.heap.size wr W) (hg : W.grownBy w5 v1.ownBlock)
    (ho : w5.ownsRow (w.heap.size + 1) 74 5 (.slice (some ⟨g5, 0, none⟩) ((O ++ oneD ⟨st, p, s, 0, b, (ml : Nat)⟩ Q).length + 1) cap5) ((O ++ oneD ⟨st, p, s, 0, b, (ml : Nat)⟩ Q).length + 1) (dcs (O ++ oneD ⟨st, p, s, 0, b, (ml : Nat)⟩ Q) ++ dc ⟨⟨x, k, v, g⟩, st⟩))
    (hl : (O ++ oneD ⟨st, p, s, 0, b, (ml : Nat)⟩ Q).length = m) (hat : v1.ownBlock = some g5 ∨ g5 = W.heap.size) (hx : b + (Q.length : Nat) = x) :
    AkMap w5 w.heap.size n (ofId RA) ∧ w5.heap[V]? = some ao ∧ DW w w.heap.size w5 (.slice (some ⟨g5, 0, none⟩) (m + 1) cap5) (O ++ oneD ⟨st, p, s, 0, b, (ml : Nat)⟩ (Q ++ [⟨o, k, v, g⟩])) ∧ (Value.slice (some ⟨g5, 0, none⟩) (m + 1) cap5).ownBlock ≠ some V := by
  have hW := hD.below hb
  have hVl := lt_of_block hV
  have hs := hb.size
  refine ⟨hm.block ((hg.block _ (Nat.lt_of_lt_of_le hm.lt hs) ?_).trans (hb.block _ hm.lt)), (hg.block V (Nat.lt_of_lt_of_le hVl hs) (fun e => hov e.symm)).trans ((hb.block V hVl).trans hV), ?_, ?_⟩
  · intro e
    have := own_block hW.row e.symm
    omega
  · have h := DW.snoc hD (Nat.le_refl _) hb hg ho
    rw [hl] at h
    rw [oneD_snoc, ← List.append_assoc]
    simp only [hx]
    exact h
  · intro e
    have e' : g5 = V := by simpa [Value.ownBlock] using e
    subst e'
    rcases hat with h | h
    · exact hov h
    · omega
set_option maxHeartbeats 8000000 in
theorem acked_ok (a : Option Addr) (cap : Nat) (L : List Ak) (sa : Option Addr) (scap : Nat) (S : List Sd) (w : World) (hin : AIn w a L) (hok : AOk L) (hg : ∀ x ∈ L, x.goodB = true) (hap : Apart L) (hsin : SInC w sa S) (hg2 : Goes2 L S) (hbnd : (duesOf L S).length ≤ 1000000) (hlen : L.length ≤ 1000000) (hslen : S.length ≤ 1000000) :
    Calls Try.prog 17 #[.slice a L.length cap, .slice sa S.length scap] w fun e w' => ∃ v, e = .returned v ∧ DW w w.heap.size w' v (duesOf L S) := by
  have HF : Hid (Calls Try.prog 23 #[.slice a L.length cap] w fun e w' => e = .returned (.map (some w.heap.size)) ∧ AkMap w' w.heap.size L.length (ofId L) ∧ Below w.heap.size w w') := firsts_ok a cap L w hin hok hg hap (by omega)
  have HIN : Hid (SInC w sa S) := hsin
  have HOK : Hid ((∀ x ∈ L, isInt x.prod ∧ isInt x.seq ∧ x.goodB = true) ∧ Apart L ∧ Goes2 L S) := ⟨fun x hx => ⟨(hok x hx).1, (hok x hx).2, hg x hx⟩, hap, hg2⟩
  obtain ⟨TT, hTT⟩ : ∃ TT, duesOf L S = TT := ⟨_, rfl⟩
  have HTT : Hid (duesOf L S = TT ∧ TT.length ≤ 1000000) := ⟨hTT, by rw [← hTT]; exact hbnd⟩
  obtain ⟨n, hn⟩ : ∃ n, L.length = n := ⟨_, rfl⟩
  obtain ⟨len, hl⟩ : ∃ len, S.length = len := ⟨_, rfl⟩
  have HL : Hid (S.length = len) := hl
  rw [hn] at HF hlen ⊢
  rw [hl] at hslen ⊢
  rw [hTT]
  clear hin hok hg hap hsin hg2 hbnd hTT hn hl
  obtain ⟨i0, hi, hz0, hz1, hz2⟩ := info_of dueInfo
  have HI : Hid (Try.prog.info? 74 = some i0 ∧ i0.zero = some zDue ∧ i0.size = 5 ∧ i0.bytes = 56) := ⟨hi, hz0, hz1, hz2⟩
  clear hi hz0 hz1 hz2
  go_enter Try.func17, Try.ntmps17
  go_wp2_with fail
  refine HF.out.mono ?_
  rintro e w1 ⟨rfl, hm, hb1⟩
  have H1 : Hid (AkMap w1 w.heap.size n (ofId L) ∧ Below w.heap.size w w1) := ⟨hm, hb1⟩
  clear hm hb1
  go_wp2_with fail
  go_loopw [5, 17] (fun v i wr => ∃ V P R RA O, V = v ∧ S = P ++ R ∧ i = .int .i64 (P.length : Nat) ∧ (∀ x ∈ RA, isInt x.prod ∧ isInt x.seq ∧ x.goodB = true) ∧ Apart RA ∧ Goes2 RA R ∧ O ++ duesOf RA R = TT ∧ AkMap wr w.heap.size n (ofId RA) ∧ DW w w.heap.size wr V O) (fun _ i _ => len - (intOf i).toNat)
  case atStart => exact ⟨_, [], S, L, [], rfl, rfl, rfl, HOK.out.1, HOK.out.2.1, HOK.out.2.2, HTT.out.1, H1.out.1, ⟨World.ownsRow_nil _ _ _ _, H1.out.2⟩⟩
  case round =>
    obtain ⟨v0, P, R, RA, O, rfl, hPR, rfl, hra, hap, hg2, hO, hM, hD⟩ := hrel
    have HM : Hid (AkMap wr w.heap.size n (ofId RA)) := hM
    have HD : Hid (DW w w.heap.size wr v0 O) := hD
    have hwr : w.heap.size ≤ wr.heap.size := hD.bel.size
    have hmw : w.heap.size < wr.heap.size := hM.lt
    clear hM hD
    cases R with
    | nil =>
      have hPL : P.length = len := by have := HL.out; rw [hPR, List.append_nil] at this; exact this
      cases RA with
      | cons y RA => exact absurd hg2 (fun h => h)
      | nil =>
        have HE : Hid (O = TT) := by rw [← hO]; exact (List.append_nil O).symm
        clear hPR hra hap hg2 hO
        go_wp2_with fail
        go_ret
        exact ⟨v0, rfl, by rw [← HE.out]; exact HD.out⟩
    | cons x R =>
      cases RA with
      | nil => exact absurd hg2 (fun h => h)
      | cons y RA =>
        obtain ⟨⟨e1, e2, e3⟩, hg3⟩ := hg2
        obtain ⟨hyp, hys, hyg⟩ := hra y (by simp)
        obtain ⟨he0, hb0, hb40, hc0, hc256⟩ := (good_iff _).1 hyg
        have HR2 : Hid ((∀ x ∈ RA, isInt x.prod ∧ isInt x.seq ∧ x.goodB = true) ∧ Apart RA ∧ Goes2 RA R) := ⟨fun z hz => hra z (by simp [hz]), (List.pairwise_cons.1 hap).2, hg3⟩
        have HNX : Hid (ofId (y :: RA) (y.prod, y.seq) = some y ∧ ofId RA (y.prod, y.seq) = none ∧ ∀ z, z ≠ (y.prod, y.seq) → ofId RA z = ofId (y :: RA) z) := by
          refine ⟨by rw [ofId_cons, if_pos ⟨rfl, rfl⟩], ofId_rest hap, fun z hz => ?_⟩
          rw [ofId_cons, if_neg]
          intro e
          exact hz (Prod.ext e.1.symm e.2.symm)
        have hO' : O ++ (oneD y x.rec' ++ duesOf RA R) = TT := hO
        have HO : Hid (O ++ (oneD y x.rec' ++ duesOf RA R) = TT ∧ O.length + x.rec'.length ≤ 1000000) := ⟨hO', by have := HTT.out.2; rw [← hO', List.length_append, List.length_append, oneD_length] at this; omega⟩
        have hlt : P.length < len := by have := HL.out; rw [hPR] at this; simp at this; omega
        have hx : S[P.length]? = some x := by rw [hPR]; simp
        obtain ⟨sb, so, ra, rc, rfl, hsb, a0, a1, a2, hrc, hri⟩ := HIN.out _ _ hx
        have c0 := cellB HD.out.bel a0
        have c1 := cellB HD.out.bel a1
        have c2 := cellB HD.out.bel a2
        clear a0 a1 a2
        have HPR : Hid (S = P ++ x :: R) := hPR
        have HRI : Hid (RIn w ra x.rec') := hri
        clear hPR hx hri hra hap hg3 hO hO' hyg
        obtain ⟨p, s, M⟩ := x
        obtain ⟨st, p', s', er, b, c⟩ := y
        simp only at he0 c0 c1 c2 hrc e1 e2 e3 hyp hys hb0 hb40 hc0 hc256 HNX HO HRI
        subst e1 e2 he0
        obtain ⟨ml, hml⟩ : ∃ ml, M.length = ml := ⟨_, rfl⟩
        have HML : Hid (M.length = ml) := hml
        rw [hml] at c2 hrc e3 HO
        subst e3
        clear hml
        obtain ⟨U, hU⟩ : ∃ U, wr.heap.size = U := ⟨_, rfl⟩
        have HU : Hid (wr.heap.size = U) := hU
        have HB5 : Hid (Below wr.heap.size wr (wr.alloc (.cells #[.int .i64 p', .int .i64 s', .slice ra ml rc] 34)) ∧ (wr.alloc (.cells #[.int .i64 p', .int .i64 s', .slice ra ml rc] 34)).heap[U]? = some (.cells #[.int .i64 p', .int .i64 s', .slice ra ml rc] 34 (0, 0))) := by
          refine ⟨below_a _ _, ?_⟩
          rw [← hU]; exact heap_alloc_new _ _
        go_upto_region 6 with fail
        clear hU
        generalize (wr.alloc (.cells #[.int .i64 p', .int .i64 s', .slice ra ml rc] 34)) = w5 at HB5
        clear c0 c1 c2
        obtain ⟨d0, d1, d2⟩ := cells3 HB5.out.2
        have hl := ((HM.out.below HB5.out.1).look kindA (p', s') (keyI hyp hys)).1
        rw [HNX.out.1] at hl
        simp only [Option.getD_some, Option.isSome_some] at hl
        obtain ⟨V, hV⟩ : ∃ V, w5.heap.size = V := ⟨_, rfl⟩
        have HV : Hid (w5.heap.size = V) := hV
        have HB6 : Hid (Below wr.heap.size wr (w5.alloc (.cells #[.int .i64 st, .int .i64 p', .int .i64 s', .int .i64 0, .int .i64 b, .int .i64 (ml : Nat)] 33)) ∧ (w5.alloc (.cells #[.int .i64 st, .int .i64 p', .int .i64 s', .int .i64 0, .int .i64 b, .int .i64 (ml : Nat)] 33)).heap[U]? = some (.cells #[.int .i64 p', .int .i64 s', .slice ra ml rc] 34 (0, 0)) ∧ (w5.alloc (.cells #[.int .i64 st, .int .i64 p', .int .i64 s', .int .i64 0, .int .i64 b, .int .i64 (ml : Nat)] 33)).heap[V]? = some (.cells #[.int .i64 st, .int .i64 p', .int .i64 s', .int .i64 0, .int .i64 b, .int .i64 (ml : Nat)] 33 (0, 0))) := by
          refine ⟨HB5.out.1.trans ((below_a _ _).mono HB5.out.1.size), ((below_a w5 _).block U (lt_of_block HB5.out.2)).trans HB5.out.2, ?_⟩
          rw [← hV]; exact heap_alloc_new _ _
        go_upto_region 8 with fail
        clear hV hl
        generalize (w5.alloc (.cells #[.int .i64 st, .int .i64 p', .int .i64 s', .int .i64 0, .int .i64 b, .int .i64 (ml : Nat)] 33)) = w6 at HB6
        clear d0 d1 d2
        obtain ⟨d0, d1, d2⟩ := cells3 HB6.out.2.1
        obtain ⟨wd, hdel, hmd, hgd⟩ := (HM.out.below HB6.out.1).del kindA (p', s') (keyI hyp hys) 0 (ofId RA) HNX.out.2.1 HNX.out.2.2
        have hUm : w.heap.size ≠ U := by have := HU.out; omega
        have hVm : w.heap.size ≠ V := by have := HV.out; have := HB5.out.1.size; have := HU.out; omega
        have HBD : Hid (AkMap wd w.heap.size n (ofId RA) ∧ wd.heap[U]? = some (.cells #[.int .i64 p', .int .i64 s', .slice ra ml rc] 34 (0, 0)) ∧ wd.heap[V]? = some (.cells #[.int .i64 st, .int .i64 p', .int .i64 s', .int .i64 0, .int .i64 b, .int .i64 (ml : Nat)] 33 (0, 0)) ∧ DW w w.heap.size wd v0 O) :=
          ⟨hmd, (hgd.block U (lt_of_block HB6.out.2.1) (fun e => hUm (Option.some.inj e).symm)).trans HB6.out.2.1, (hgd.block V (lt_of_block HB6.out.2.2) (fun e => hVm (Option.some.inj e).symm)).trans HB6.out.2.2, (HD.out.below HB6.out.1).grown (Nat.le_refl _) hgd⟩
        have HOV : Hid (v0.ownBlock ≠ some V) := by
          intro e
          have := own_block HD.out.row e
          have := HV.out; have := HB5.out.1.size
          omega
        clear hmd hgd hUm hVm
        go_upto_region 9 with fail
        clear hdel d0 d1 d2
        obtain ⟨d0, d1, d2⟩ := cells3 HBD.out.2.1
        obtain ⟨f0, f1, f2, f3, f4, f5⟩ := cells6 HBD.out.2.2.1
        go_wp2_with fail
        clear d0 d1 d2 f0 f1 f2 f3 f4 f5
        go_loopw [5, 43] (fun v k wr => ∃ W Q T, W = v ∧ M = Q ++ T ∧ k = .int .i64 (Q.length : Nat) ∧ AkMap wr w.heap.size n (ofId RA) ∧ wr.heap[V]? = some (.cells #[.int .i64 st, .int .i64 p', .int .i64 s', .int .i64 0, .int .i64 b, .int .i64 (ml : Nat)] 33 (0, 0)) ∧ DW w w.heap.size wr W (O ++ oneD ⟨st, p', s', 0, b, (ml : Nat)⟩ Q) ∧ W.ownBlock ≠ some V) (fun _ k _ => ml - (intOf k).toNat)
        case atStart => exact ⟨_, [], M, rfl, rfl, rfl, HBD.out.1, HBD.out.2.2.1, by simpa [oneD] using HBD.out.2.2.2, HOV.out⟩
        case round =>
          obtain ⟨v1, Q, T, rfl, hQT, rfl, hM, hV, hD, hov⟩ := hrel
          have HK : Hid (AkMap wr w.heap.size n (ofId RA) ∧ wr.heap[V]? = some (.cells #[.int .i64 st, .int .i64 p', .int .i64 s', .int .i64 0, .int .i64 b, .int .i64 (ml : Nat)] 33 (0, 0)) ∧ DW w w.heap.size wr v1 (O ++ oneD ⟨st, p', s', 0, b, (ml : Nat)⟩ Q) ∧ v1.ownBlock ≠ some V) := ⟨hM, hV, hD, hov⟩
          have hri := HRI.out.bel hD.bel
          have hsw : w.heap.size ≤ wr.heap.size := hD.bel.size
          clear hM hV hD hov
          cases T with
          | nil =>
            have hQM : Q = M := by rw [hQT, List.append_nil]
            have hQl : Q.length = ml := by rw [hQM]; exact HML.out
            have HE : Hid ((O ++ oneD ⟨st, p', s', 0, b, (ml : Nat)⟩ Q) ++ duesOf RA R = TT) := by
              show (O ++ oneD ⟨st, p', s', 0, b, (ml : Nat)⟩ Q) ++ duesOf RA R = TT
              rw [List.append_assoc, hQM]; exact HO.out.1
            clear hri hQT hQM
            go_wp2_with fail
            exact ⟨⟨v1, P ++ [⟨p', s', M⟩], R, RA, _, rfl, by rw [HPR.out, List.append_assoc]; rfl, by simp, HR2.out.1, HR2.out.2.1, HR2.out.2.2, HE.out, HK.out.1, HK.out.2.2.1⟩, by simp [intOf]; omega⟩
          | cons y T =>
            have hltq : Q.length < ml := by have := HML.out; rw [hQT] at this; simp at this; omega
            have hy : M[Q.length]? = some y := by rw [hQT]; simp
            obtain ⟨yb, yo, rfl, hyb, e0, e1, e2, e3⟩ := hri _ _ hy
            have HQT : Hid (M = Q ++ y :: T) := hQT
            clear hri hQT hy
            obtain ⟨o, k, v, g⟩ := y
            simp only at e0 e1 e2 e3
            obtain ⟨f0, f1, f2, f3, f4, f5⟩ := cells6 HK.out.2.1
            obtain ⟨UR, hUR⟩ : ∃ UR, wr.heap.size = UR := ⟨_, rfl⟩
            have HUR : Hid (wr.heap.size = UR) := hUR
            have HB12 : Hid (Below wr.heap.size wr (wr.alloc (.cells #[.int .i64 (b + (Q.length : Nat)), .string k, .string v, .bool g] 36)) ∧ (wr.alloc (.cells #[.int .i64 (b + (Q.length : Nat)), .string k, .string v, .bool g] 36)).heap[UR]? = some (.cells #[.int .i64 (b + (Q.length : Nat)), .string k, .string v, .bool g] 36 (0, 0))) := by
              rw [← hUR]
              exact ⟨below_a _ _, heap_alloc_new _ _⟩
            have HFZ : Hid ((wr.alloc (.cells #[.int .i64 o, .string k, .string v, .bool g] 36)).frozen? ⟨UR, 0, none⟩ = false) := by
              show _ = false
              rw [← hUR]
              exact frozen0 (heap_alloc_new _ _) 0
            have HFA := cellB (below_a wr (.cells #[.int .i64 o, .string k, .string v, .bool g] 36)) f4
            have hfz := HFZ.out
            have hbq : b + (Q.length : Nat) ≤ 1099511628032 := by omega
            have hbq0 : 0 ≤ b + (Q.length : Nat) := by omega
            go_upto_region 13 with fail
            clear hUR hfz HFA e0 e1 e2 e3 f0 f1 f2 f3 f4 f5
            generalize (wr.alloc (.cells #[.int .i64 (b + (Q.length : Nat)), .string k, .string v, .bool g] 36)) = w12 at HB12
            obtain ⟨x, hx⟩ : ∃ x, b + (Q.length : Nat) = x := ⟨_, rfl⟩
            have HX : Hid (b + (Q.length : Nat) = x) := hx
            rw [hx] at HB12 ⊢
            clear hx hbq hbq0
            obtain ⟨m, hm⟩ : ∃ m, (O ++ oneD ⟨st, p', s', 0, b, (ml : Nat)⟩ Q).length = m := ⟨_, rfl⟩
            have hml2 : m + 1 ≤ 1000000 := by have := HO.out.2; rw [← hm, List.length_append, oneD_length]; omega
            have HMM : Hid ((O ++ oneD ⟨st, p', s', 0, b, (ml : Nat)⟩ Q).length = m) := hm
            have HOA : Hid (∀ o, (w12.alloc o).ownsRow (w.heap.size + 1) 74 5 v1 m (dcs (O ++ oneD ⟨st, p', s', 0, b, (ml : Nat)⟩ Q)) ∧ w.heap.size + 1 ≤ (w12.alloc o).heap.size) := fun o => by
              refine ⟨?_, ?_⟩
              · have := ((HK.out.2.2.1.below HB12.out.1).below (below_a w12 o)).row
                rw [hm] at this
                exact this
              · have h1 := HK.out.1.lt
                have h2 := HB12.out.1.size
                have h3 := (below_a w12 o).size
                omega
            clear hm
            obtain ⟨d0, d1, d2, d3⟩ := cells4 HB12.out.2
            have hV12 : w12.heap[V]? = some (.cells #[.int .i64 st, .int .i64 p', .int .i64 s', .int .i64 0, .int .i64 b, .int .i64 (ml : Nat)] 33 (0, 0)) := (HB12.out.1.block V (lt_of_block HK.out.2.1)).trans HK.out.2.1
            have HV12 : Hid (w12.heap[V]? = some (.cells #[.int .i64 st, .int .i64 p', .int .i64 s', .int .i64 0, .int .i64 b, .int .i64 (ml : Nat)] 33 (0, 0))) := hV12
            obtain ⟨f0, f1, f2, f3, f4, f5⟩ := cells6 hV12
            clear hV12
            go_wp2_with (at_builtin; refine wpList_append_lies _ rfl _ _ 65 rfl (w.heap.size + 1) 74 i0 zDue 5 56 Try.underlying65 HI.out.1 HI.out.2.1 HI.out.2.2.1 HI.out.2.2.2 rfl (by decide) v1 m (dcs (O ++ oneD ⟨st, p', s', 0, b, (ml : Nat)⟩ Q)) rfl (HOA.out _).1 ⟨w12.heap.size, 0, none⟩ 1 1 (dc ⟨⟨x, k, v, g⟩, st⟩) rfl rfl (newsP _ _ _) (one5 _) (by decide) (by unfold maxLen; omega) (by omega) (HOA.out _).2 _ rfl ?_; intro g5 cap5 w5 hown hgrow hat hgl; have HNX : Hid (AkMap w5 w.heap.size n (ofId RA) ∧ w5.heap[V]? = some (.cells #[.int .i64 st, .int .i64 p', .int .i64 s', .int .i64 0, .int .i64 b, .int .i64 (ml : Nat)] 33 (0, 0)) ∧ DW w w.heap.size w5 (.slice (some ⟨g5, 0, none⟩) (m + 1) cap5) (O ++ oneD ⟨st, p', s', 0, b, (ml : Nat)⟩ (Q ++ [⟨o, k, v, g⟩])) ∧ (Value.slice (some ⟨g5, 0, none⟩) (m + 1) cap5).ownBlock ≠ some V) := step_due HK.out.1 HK.out.2.1 HK.out.2.2.1 HK.out.2.2.2 (HB12.out.1.trans ((below_a w12 _).mono HB12.out.1.size)) hgrow (by rw [HMM.out]; exact hown) HMM.out hat HX.out; clear hown hgrow hat hgl)
            exact ⟨⟨_, Q ++ [⟨o, k, v, g⟩], T, rfl, by rw [HQT.out, List.append_assoc]; rfl, by simp, HNX.out.1, HNX.out.2.1, HNX.out.2.2.1, HNX.out.2.2.2⟩, by simp [intOf]; omega⟩
end Go.Proofs.Ytebfpffilepfaaa
