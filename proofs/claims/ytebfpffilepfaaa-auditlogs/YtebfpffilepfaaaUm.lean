/- Layer 18: Fetches walked. -/
import Derived.Test.YtebfpffilepfaaaUj
import Derived.Test.YtebfpffilepfaaaUl
namespace Go.Proofs.Ytebfpffilepfaaa
open Go.RowKit Go.Maps
set_option linter.unusedVariables false
set_option maxRecDepth 20000

theorem rises_up (fr : Int) : ∀ (T M : List Rec), Up M → risesG fr M T = true → Up (M ++ T)
  | [], M, h, _ => by rw [List.append_nil]; exact h
  | r :: T, M, h, hr => by
    simp only [risesG, Bool.and_eq_true, Bool.not_eq_true'] at hr
    obtain ⟨h1, h2⟩ := hr
    have hu : Up (M ++ [r]) := by
      unfold Up
      rw [List.pairwise_append]
      refine ⟨h, List.pairwise_singleton _ _, fun q hq x hx => ?_⟩
      rw [List.mem_singleton] at hx
      subst hx
      rcases List.eq_nil_or_concat M with hM | ⟨M', l, hM⟩
      · rw [hM] at hq; simp at hq
      · rw [List.concat_eq_append] at hM
        subst hM
        unfold stepBad at h1
        simp only [List.getLast?_append, List.getLast?_singleton, Option.some_or, Bool.or_eq_false_iff, decide_eq_false_iff_not] at h1
        rcases List.mem_append.1 hq with hq | hq
        · have := (List.pairwise_append.1 h).2.2 q hq l (by simp); omega
        · rw [List.mem_singleton] at hq; subst hq; omega
    have := rises_up fr T (M ++ [r]) hu h2
    rwa [List.append_assoc] at this
theorem rises_up0 {fr : Int} {M : List Rec} (h : risesG fr [] M = true) : Up M := by
  have := rises_up fr M [] List.Pairwise.nil h
  simpa using this
/-- The records of fetches that are answers. -/
def noted (P : List Fe) : List Rec := P.flatMap fun p => if p.err = 0 then p.rec' else []
theorem noted_snoc (P : List Fe) (f : Fe) : noted (P ++ [f]) = noted P ++ (if f.err = 0 then f.rec' else []) := by simp [noted]
open Classical in
noncomputable def badF (Z : List Rec) (P : List Fe) (f : Fe) : Nat :=
  if f.err ≠ 0 then 0 else if ¬ (risesG f.from' [] f.rec' = true ∧ Fits (noted P) f.rec') then 110 else if ¬ (∀ r ∈ f.rec', r.zero ∈ Z) then 3 else 0
/-- The first fetch that may not be. -/
noncomputable def ffbad (Z : List Rec) : List Fe → List Fe → Option (Nat × Nat)
  | _, [] => none
  | P, f :: R => if badF Z P f = 0 then ffbad Z (P ++ [f]) R else some (badF Z P f, P.length)
def resF : Option (Nat × Nat) → Value
  | none => .tuple #[.int .i64 0, .int .i64 0]
  | some (e, i) => .tuple #[.int .i64 (e : Nat), .int .i64 (i : Nat)]
theorem badF_err {Z : List Rec} {P : List Fe} {f : Fe} (h : f.err ≠ 0) : badF Z P f = 0 := by unfold badF; rw [if_pos h]
theorem badF_ord {Z : List Rec} {P : List Fe} {f : Fe} (h : f.err = 0) (h' : ¬ (risesG f.from' [] f.rec' = true ∧ Fits (noted P) f.rec')) : badF Z P f = 110 := by
  unfold badF; rw [if_neg (by simpa using h), if_pos h']
theorem badF_none {Z : List Rec} {P : List Fe} {f : Fe} (h : f.err = 0) (h1 : risesG f.from' [] f.rec' = true) (h2 : Fits (noted P) f.rec') (h3 : ¬ ∀ r ∈ f.rec', r.zero ∈ Z) : badF Z P f = 3 := by
  unfold badF; rw [if_neg (by simpa using h), if_neg (fun e => e ⟨h1, h2⟩), if_pos h3]
theorem badF_good {Z : List Rec} {P : List Fe} {f : Fe} (h : f.err = 0) (h1 : risesG f.from' [] f.rec' = true) (h2 : Fits (noted P) f.rec') (h3 : ∀ r ∈ f.rec', r.zero ∈ Z) : badF Z P f = 0 := by
  unfold badF; rw [if_neg (by simpa using h), if_neg (fun e => e ⟨h1, h2⟩), if_neg (fun e => e h3)]
theorem ffbad_no {Z : List Rec} {P R : List Fe} {f : Fe} (h : badF Z P f = 0) : ffbad Z P (f :: R) = ffbad Z (P ++ [f]) R := by simp [ffbad, h]
theorem ffbad_yes {Z : List Rec} {P R : List Fe} {f : Fe} {e : Nat} (h : badF Z P f = e) (he : e ≠ 0) : ffbad Z P (f :: R) = some (e, P.length) := by simp [ffbad, h, he]
theorem retF {e k : Nat} {res : Option (Nat × Nat)} (h : res = some (e, k)) : resF res = .tuple #[.int .i64 (e : Nat), .int .i64 (k : Nat)] := by rw [h]; rfl
/-- What Fetches knows. -/
structure FM (w wr : World) (U V n : Nat) (Z : List Rec) (P : List Fe) : Prop where
  tx : TxS wr U n Z
  ats : AtS wr V (fsum P) (noted P)
  uni : Uni (noted P)
  bel : Below w.heap.size w wr
  hU : w.heap.size ≤ U
  hV : U < V
theorem FM.skip {w wr w' : World} {U V n : Nat} {Z : List Rec} {P : List Fe} {f : Fe} (h : FM w wr U V n Z P) (hf : f.err ≠ 0) (hb : Below wr.heap.size wr w') : FM w w' U V n Z (P ++ [f]) := by
  have e : noted (P ++ [f]) = noted P := by rw [noted_snoc, if_neg hf, List.append_nil]
  refine ⟨h.tx.below hb, ?_, by rw [e]; exact h.uni, h.bel.trans (hb.mono h.bel.size), h.hU, h.hV⟩
  rw [e, fsum_append]
  exact (MT.below h.ats hb).mono (by omega)
set_option maxHeartbeats 4000000 in
theorem fetches_ok (a : Option Addr) (cap : Nat) (L : List Fe) (b : Option Addr) (capS : Nat) (S : List Sd) (w : World) (hin : FIn w a L) (hsin : SIn w b S) (hok : FOk L) (hsok : SOk S) (hlen : L.length ≤ 9223372036854775807) (hlenS : S.length ≤ 9223372036854775807) (hsum : fsum L ≤ 4611686018427387904) (hsumS : ssum S ≤ 4611686018427387904) :
    Calls Try.prog 6 #[.slice a L.length cap, .slice b S.length capS] w fun e w' => e = .returned (resF (ffbad (zeros S) [] L)) ∧ Below w.heap.size w w' := by
  have HIN : Hid (FIn w a L) := hin
  have HOK : Hid (FOk L) := hok
  have HSUM : Hid (fsum L ≤ 4611686018427387904) := hsum
  have HTX : Hid (Calls Try.prog 11 #[.slice b S.length capS] w fun e w' => e = .returned (.map (some w.heap.size)) ∧ TxS w' w.heap.size (ssum S) (zeros S) ∧ Below w.heap.size w w') := textsOf_ok b capS S w hsin hsok hlenS hsumS
  obtain ⟨ns, hns⟩ : ∃ ns, ssum S = ns := ⟨_, rfl⟩
  obtain ⟨Z, hZ⟩ : ∃ Z, zeros S = Z := ⟨_, rfl⟩
  obtain ⟨ls, hls⟩ : ∃ ls, S.length = ls := ⟨_, rfl⟩
  rw [hns, hZ, hls] at HTX
  rw [hZ, hls]
  obtain ⟨len, hl⟩ : ∃ len, L.length = len := ⟨_, rfl⟩
  have HL : Hid (L.length = len) := hl
  obtain ⟨res, hres⟩ : ∃ res, ffbad Z [] L = res := ⟨_, rfl⟩
  have HRES : Hid (ffbad Z [] L = res) := hres
  rw [hl] at hlen ⊢
  rw [hres]
  clear hin hok hl hres hsum hsin hsok hns hZ hls hlenS hsumS
  have hmm := @run_makeMap Try.prog
  go_enter Try.func6, Try.ntmps6
  go_wp2_with fail
  refine HTX.out.mono ?_
  rintro e w1 ⟨rfl, hT1, hb1⟩
  obtain ⟨V, hV⟩ : ∃ V, w1.heap.size = V := ⟨_, rfl⟩
  have hUV : w.heap.size < V := by have := hT1.lt; omega
  have HA : Hid (FM w (w1.alloc (.map #[] 0)) w.heap.size V ns Z []) := by
    refine ⟨hT1.below (below_a _ _), ?_, fun q hq => by simp [noted] at hq, bl_alloc (Nat.le_refl _) hb1, Nat.le_refl _, hUV⟩
    rw [← hV]
    exact MT.nil _ _ _ _ _ w1
  clear hT1 hb1
  go_wp2
  clear hmm
  have HUV : Hid (w.heap.size < V) := hUV
  clear hUV
  go_loopw [15] (fun i wr => ∃ P R, L = P ++ R ∧ i = .int .i64 (P.length : Nat) ∧ ffbad Z P R = res ∧ FM w wr w.heap.size V ns Z P) (fun i _ => len - (intOf i).toNat)
  case atStart => exact ⟨[], L, rfl, rfl, HRES.out, HA.out⟩
  case round =>
    obtain ⟨P, R, hPR, rfl, hf, hM⟩ := hrel
    have HM : Hid (FM w wr w.heap.size V ns Z P) := hM
    have HF : Hid (ffbad Z P R = res) := hf
    have hwr : w.heap.size ≤ wr.heap.size := hM.bel.size
    clear hM hf
    cases R with
    | nil =>
      have hPL : P.length = len := by have := HL.out; rw [hPR, List.append_nil] at this; exact this
      have HR : Hid (resF res = .tuple #[.int .i64 0, .int .i64 0]) := by rw [← HF.out]; rfl
      clear hPR
      go_wp2_with fail
      go_ret2
      exact ⟨by rw [HR.out]; rfl, HM.out.bel⟩
    | cons x R =>
      have hlt : P.length < len := by have := HL.out; rw [hPR] at this; simp at this; omega
      have hx : L[P.length]? = some x := by rw [hPR]; simp
      obtain ⟨hro, hrl⟩ := HOK.out x (by rw [hPR]; simp)
      have hfs : fsum P + x.rec'.length ≤ 4611686018427387904 := by
        have := HSUM.out
        rw [hPR, fsum_append] at this
        simp only [fsum] at this
        omega
      obtain ⟨sb, so, ra, rc, rfl, hsb, c0, c1, c2, c3, c4, hri⟩ := HIN.out _ _ hx
      obtain ⟨c0, c1, c2, c3, c4⟩ : _ ∧ _ ∧ _ ∧ _ ∧ _ := ⟨cellB HM.out.bel c0, cellB HM.out.bel c1, cellB HM.out.bel c2, cellB HM.out.bel c3, cellB HM.out.bel c4⟩
      have HPR : Hid (L = P ++ x :: R) := hPR
      have HRI : Hid (RIn w ra x.rec') := hri
      have HRO : Hid (ROk x.rec') := hro
      have HRB : Hid (∀ b off, ra = some ⟨b, off, none⟩ → 0 < x.rec'.length → b ≠ V) := fun b off hb hp => by
        obtain ⟨b', off', hb', hlt', _⟩ := hri 0 (x.rec'[0]) (List.getElem?_eq_getElem hp)
        rw [hb] at hb'
        cases hb'
        have := HUV.out
        omega
      clear hPR hx hri hro
      obtain ⟨st, nd, fr, er, M⟩ := x
      simp only at c0 c1 c2 c3 c4 hrl hfs
      have HRS : Hid (∀ W, Below w.heap.size w W → Calls Try.prog 12 #[.agg #[.int .i64 st, .int .i64 nd, .int .i64 fr, .int .i64 er, .slice ra M.length rc]] W fun e w' => e = .returned (.bool (risesG fr [] M)) ∧ Below W.heap.size W w') := fun W hW => rises_ok st nd fr er ra rc M W (HRI.out.bel hW) hrl
      have HGW : Hid (∀ W, Below w.heap.size w W → AtS W V (fsum P) (noted P) → Up M → Calls Try.prog 13 #[.map (some V), .slice ra M.length rc] W fun e w' => ∃ b : Bool, e = .returned (.bool b) ∧ (b = true ↔ Fits (noted P) M) ∧ (b = true → AtS w' V (fsum P + M.length) (noted P ++ M)) ∧ OnlyB V W w') := fun W hW hA hU => goesWith_ok V (fsum P) (noted P) ra rc M 0 W (Nat.zero_le _) hA (HRI.out.bel hW) HRB.out HRO.out hrl (by omega) hU HM.out.uni
      have HAA : Hid (∀ W, Below w.heap.size w W → TxS W w.heap.size ns Z → Calls Try.prog 14 #[.map (some w.heap.size), .slice ra M.length rc] W fun e w' => ∃ b : Bool, e = .returned (.bool b) ∧ (b = true ↔ ∀ r ∈ M, r.zero ∈ Z) ∧ Below W.heap.size W w') := fun W hW hT => areAmong_ok _ ns Z ra rc M W hT (HRI.out.bel hW) HRO.out hrl
      obtain ⟨ml, hml⟩ : ∃ ml, M.length = ml := ⟨_, rfl⟩
      have HML : Hid (M.length = ml) := hml
      rw [hml] at c4 hrl hfs HRS HGW HAA
      clear hml
      obtain ⟨U, hU⟩ : ∃ U, wr.heap.size = U := ⟨_, rfl⟩
      have HU : Hid (wr.heap.size = U) := hU
      have HB5 : Hid (Below wr.heap.size wr (wr.alloc (.cells #[.int .i64 st, .int .i64 nd, .int .i64 fr, .int .i64 er, .slice ra ml rc] 40)) ∧ (wr.alloc (.cells #[.int .i64 st, .int .i64 nd, .int .i64 fr, .int .i64 er, .slice ra ml rc] 40)).heap[U]? = some (.cells #[.int .i64 st, .int .i64 nd, .int .i64 fr, .int .i64 er, .slice ra ml rc] 40 (0, 0))) := ⟨below_a _ _, by rw [← hU]; exact heap_alloc_new _ _⟩
      go_upto_region 6 with fail
      clear hU
      generalize (wr.alloc (.cells #[.int .i64 st, .int .i64 nd, .int .i64 fr, .int .i64 er, .slice ra ml rc] 40)) = w5 at HB5
      clear c0 c1 c2 c3 c4
      obtain ⟨d0, d1, d2, d3, d4⟩ := cells5 HB5.out.2
      by_cases he : er = 0
      · subst he
        have HBW5 : Hid (Below w.heap.size w w5) := HM.out.bel.trans (HB5.out.1.mono hwr)
        go_wp2_with fail
        refine (HRS.out _ HBW5.out).mono ?_
        rintro e w7 ⟨rfl, hb7⟩
        have HB7 : Hid (Below wr.heap.size wr w7 ∧ w7.heap[U]? = some (.cells #[.int .i64 st, .int .i64 nd, .int .i64 fr, .int .i64 0, .slice ra ml rc] 40 (0, 0)) ∧ Below w.heap.size w w7) := ⟨HB5.out.1.trans (hb7.mono HB5.out.1.size), (hb7.block U (lt_of_block HB5.out.2)).trans HB5.out.2, HBW5.out.trans (hb7.mono HBW5.out.size)⟩
        clear hb7 d0 d1 d2 d3 d4
        obtain ⟨d0, d1, d2, d3, d4⟩ := cells5 HB7.out.2.1
        obtain ⟨r, hr⟩ : ∃ r, risesG fr [] M = r := ⟨_, rfl⟩
        have HR1 : Hid (risesG fr [] M = r) := hr
        rw [hr]
        clear hr
        cases r
        · have HR : Hid (resF res = .tuple #[.int .i64 110, .int .i64 (P.length : Nat)]) := retF (e := 110) (by rw [← HF.out, ffbad_yes (badF_ord rfl (fun h => by rw [HR1.out] at h; cases h.1)) (by omega)])
          go_wp2_with fail
          go_ret2
          exact ⟨by rw [HR.out]; rfl, HB7.out.2.2⟩
        · have HGC : Hid (Calls Try.prog 13 #[.map (some V), .slice ra ml rc] w7 fun e w' => ∃ b : Bool, e = .returned (.bool b) ∧ (b = true ↔ Fits (noted P) M) ∧ (b = true → AtS w' V (fsum P + ml) (noted P ++ M)) ∧ OnlyB V w7 w') := HGW.out w7 HB7.out.2.2 (AtS.below HM.out.ats HB7.out.1) (rises_up0 HR1.out)
          go_wp2_with fail
          refine HGC.out.mono ?_
          rintro e w8 ⟨b, rfl, hb1, hb2, hO⟩
          have HG : Hid ((b = true ↔ Fits (noted P) M) ∧ (b = true → AtS w8 V (fsum P + ml) (noted P ++ M))) := ⟨hb1, hb2⟩
          have hVs : V < w7.heap.size := (AtS.below HM.out.ats HB7.out.1).lt
          have hUne : U ≠ V := by have := MT.lt HM.out.ats; have := HU.out; omega
          have HB8 : Hid (Below w.heap.size w w8 ∧ w8.heap[U]? = some (.cells #[.int .i64 st, .int .i64 nd, .int .i64 fr, .int .i64 0, .slice ra ml rc] 40 (0, 0)) ∧ TxS w8 w.heap.size ns Z) := by
            have h7 := HM.out.tx.below HB7.out.1
            refine ⟨HB7.out.2.2.trans (hO.below (Nat.le_of_lt HUV.out) HB7.out.2.2.size), (hO.block U (lt_of_block HB7.out.2.1) hUne).trans HB7.out.2.1, h7.block (hO.block _ h7.lt (by have := HUV.out; omega))⟩
          clear hb1 hb2 hO d0 d1 d2 d3 d4 hUne hVs
          cases b
          · have HR : Hid (resF res = .tuple #[.int .i64 110, .int .i64 (P.length : Nat)]) := retF (e := 110) (by rw [← HF.out, ffbad_yes (badF_ord rfl (fun h => by have := HG.out.1.2 h.2; cases this)) (by omega)])
            go_wp2_with fail
            go_ret2
            exact ⟨by rw [HR.out]; rfl, HB8.out.1⟩
          · obtain ⟨d0, d1, d2, d3, d4⟩ := cells5 HB8.out.2.1
            go_wp2_with fail
            refine (HAA.out _ HB8.out.1 HB8.out.2.2).mono ?_
            rintro e w9 ⟨b, rfl, hb1, hb9⟩
            have HBB : Hid (b = true ↔ ∀ r ∈ M, r.zero ∈ Z) := hb1
            have HB9 : Hid (Below w.heap.size w w9 ∧ Below w8.heap.size w8 w9) := ⟨HB8.out.1.trans (hb9.mono HB8.out.1.size), hb9⟩
            clear hb1 hb9 d0 d1 d2 d3 d4
            cases b
            · have HR : Hid (resF res = .tuple #[.int .i64 3, .int .i64 (P.length : Nat)]) := retF (e := 3) (by rw [← HF.out, ffbad_yes (badF_none rfl HR1.out (HG.out.1.1 (by first | trivial | rfl)) (fun h => by have := HBB.out.2 h; cases this)) (by omega)])
              go_wp2_with fail
              go_ret2
              exact ⟨by rw [HR.out]; rfl, HB9.out.1⟩
            · have HE : Hid (FM w w9 w.heap.size V ns Z (P ++ [⟨st, nd, fr, 0, M⟩]) ∧ ffbad Z (P ++ [⟨st, nd, fr, 0, M⟩]) R = res) := by
                have e : noted (P ++ [⟨st, nd, fr, 0, M⟩]) = noted P ++ M := by rw [noted_snoc, if_pos rfl]
                refine ⟨⟨HB8.out.2.2.below HB9.out.2, ?_, ?_, HB9.out.1, Nat.le_refl _, HUV.out⟩, ?_⟩
                · rw [e, fsum_append]
                  have := AtS.below (HG.out.2 (by first | trivial | rfl)) HB9.out.2
                  simpa [fsum, HML.out] using this
                · rw [e]; exact HM.out.uni.append (rises_up0 HR1.out) (HG.out.1.1 (by first | trivial | rfl))
                · rw [← HF.out, ffbad_no (badF_good rfl HR1.out (HG.out.1.1 (by first | trivial | rfl)) (HBB.out.1 rfl))]
              go_wp2_with fail
              exact ⟨⟨P ++ [⟨st, nd, fr, 0, M⟩], R, by rw [HPR.out, List.append_assoc]; rfl, by simp, HE.out.2, HE.out.1⟩, by simp [intOf]; omega⟩
      · have HE : Hid (FM w w5 w.heap.size V ns Z (P ++ [⟨st, nd, fr, er, M⟩]) ∧ ffbad Z (P ++ [⟨st, nd, fr, er, M⟩]) R = res) :=
          ⟨HM.out.skip he HB5.out.1, by rw [← HF.out, ffbad_no (badF_err he)]⟩
        go_wp2_with fail
        exact ⟨⟨P ++ [⟨st, nd, fr, er, M⟩], R, by rw [HPR.out, List.append_assoc]; rfl, by simp, HE.out.2, HE.out.1⟩, by simp [intOf]; omega⟩
end Go.Proofs.Ytebfpffilepfaaa
