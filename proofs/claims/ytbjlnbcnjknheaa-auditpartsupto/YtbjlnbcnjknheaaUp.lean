/- Layer 18: the document's Fetches walked. -/
import Derived.Test.YtbjlnbcnjknheaaUo
import Derived.Test.YtbjlnbcnjknheaaUn
namespace Go.Proofs.Ytbjlnbcnjknheaa
open Go.RowKit Go.Maps
set_option linter.unusedVariables false
set_option maxRecDepth 20000

set_option maxHeartbeats 4000000 in
theorem rfetches_ok (a : Option Addr) (cap : Nat) (L : List Fe) (b : Option Addr) (capS : Nat) (S : List Sd) (w : World) (hin : FIn w a L) (hsin : SIn w b S) (hok : FOk L) (hsok : SOk S) (hlen : L.length ≤ 9223372036854775807) (hlenS : S.length ≤ 9223372036854775807) :
    Calls Try.prog 12 #[.slice a L.length cap, .slice b S.length capS] w fun e w' => e = .returned (resF (ffbad (zeros S) [] L)) ∧ Below w.heap.size w w' := by
  have HIN : Hid (FIn w a L) := hin
  have HOK : Hid (FOk L) := hok
  have HPT : Hid (∀ (P R : List Fe) (x : Fe), L = P ++ x :: R → ∀ W, Below w.heap.size w W → Calls Try.prog 21 #[.slice a L.length cap, .int .i64 (P.length : Nat)] W (RetB (Parts P x) W)) := fun P R x h W hW => parts_ok a cap L P R x h W (hin.below hW (Nat.le_refl _)) hok hlen
  have HSD : Hid (∀ (r : Rec) W, Below w.heap.size w W → Calls Try.prog 22 #[.slice b S.length capS, r.v] W (RetB (r.zero ∈ zeros S) W)) := fun r W hW => isSaid_ok b capS S r W (hsin.below hW (Nat.le_refl _)) hsok hlenS
  obtain ⟨Z, hZ⟩ : ∃ Z, zeros S = Z := ⟨_, rfl⟩
  obtain ⟨ls, hls⟩ : ∃ ls, S.length = ls := ⟨_, rfl⟩
  rw [hZ, hls] at HSD
  rw [hZ, hls]
  obtain ⟨len, hl⟩ : ∃ len, L.length = len := ⟨_, rfl⟩
  have HL : Hid (L.length = len) := hl
  obtain ⟨res, hres⟩ : ∃ res, ffbad Z [] L = res := ⟨_, rfl⟩
  have HRES : Hid (ffbad Z [] L = res) := hres
  rw [hl] at hlen HPT ⊢
  rw [hres]
  clear hin hok hl hres hsin hsok hZ hls hlenS
  go_enter Try.func12, Try.ntmps12
  go_wp2_with fail
  go_loopw [6] (fun i wr => ∃ P R, L = P ++ R ∧ i = .int .i64 (P.length : Nat) ∧ ffbad Z P R = res ∧ Below w.heap.size w wr) (fun i _ => len - (intOf i).toNat)
  case atStart => exact ⟨[], L, rfl, rfl, HRES.out, Below.refl _ _⟩
  case round =>
    obtain ⟨P, R, hPR, rfl, hf, hB⟩ := hrel
    have HB : Hid (Below w.heap.size w wr) := hB
    have HF : Hid (ffbad Z P R = res) := hf
    have hwr : w.heap.size ≤ wr.heap.size := hB.size
    clear hB hf
    cases R with
    | nil =>
      have hPL : P.length = len := by have := HL.out; rw [hPR, List.append_nil] at this; exact this
      have HR : Hid (resF res = .tuple #[.int .i64 0, .int .i64 0]) := by rw [← HF.out]; rfl
      clear hPR
      go_wp2_with fail
      go_ret2
      exact ⟨by rw [HR.out]; rfl, HB.out⟩
    | cons x R =>
      have hlt : P.length < len := by have := HL.out; rw [hPR] at this; simp at this; omega
      have hx : L[P.length]? = some x := by rw [hPR]; simp
      have hrl := (HOK.out x (by rw [hPR]; simp)).2
      obtain ⟨sb, so, ra, rc, rfl, hsb, _, _, _, c3, c4, hri⟩ := HIN.out _ _ hx
      have HC : Hid (w.cell? ⟨sb, so + P.length * 5 + 4, none⟩ = some (.slice ra x.rec'.length rc)) := c4
      have c3 := cellB HB.out c3
      have HPR : Hid (L = P ++ x :: R) := hPR
      have HRI : Hid (RIn w ra x.rec') := hri
      clear hPR hx hri c4
      obtain ⟨st, nd, fr, er, M⟩ := x
      simp only at c3 HC hrl
      obtain ⟨ml, hml⟩ : ∃ ml, M.length = ml := ⟨_, rfl⟩
      have HML : Hid (M.length = ml) := hml
      rw [hml] at hrl HC
      clear hml
      by_cases he : er = 0
      · subst he
        have HP : Hid (∀ W, Below w.heap.size w W → Calls Try.prog 21 #[.slice (some ⟨sb, so, none⟩) len cap, .int .i64 (P.length : Nat)] W (RetB (Parts P ⟨st, nd, fr, 0, M⟩) W)) := HPT.out P R _ HPR.out
        go_wp2_with fail
        refine (HP.out _ HB.out).mono ?_
        rintro e w1 ⟨t, rfl, ht, hb1⟩
        have HT : Hid (t = true ↔ Parts P ⟨st, nd, fr, 0, M⟩) := ht
        have HB1 : Hid (Below w.heap.size w w1) := HB.out.trans (hb1.mono hwr)
        clear ht hb1 c3
        cases t
        · have HGD : Hid (risesG fr [] M = true ∧ Fits (noted P) M) := Classical.byContradiction fun h => by
            have := HT.out.2 h
            cases this
          go_wp2_with fail
          go_loopw [7] (fun k wr => ∃ Q T, M = Q ++ T ∧ k = .int .i64 (Q.length : Nat) ∧ (∀ r ∈ Q, r.zero ∈ Z) ∧ Below w.heap.size w wr) (fun k _ => ml - (intOf k).toNat)
          case atStart => exact ⟨[], M, rfl, rfl, fun r h => by simp at h, HB1.out⟩
          case round =>
            obtain ⟨Q, T, hQT, rfl, hn, hB⟩ := hrel
            have HBI : Hid (Below w.heap.size w wr) := hB
            have HN : Hid (∀ r ∈ Q, r.zero ∈ Z) := hn
            have c4 := cellB hB HC.out
            have hri := HRI.out.bel hB
            have hwr2 : w.heap.size ≤ wr.heap.size := hB.size
            clear hB hn
            cases T with
            | nil =>
              have hQM : Q = M := by rw [hQT, List.append_nil]
              subst hQM
              have hQl : Q.length = ml := HML.out
              have HE : Hid (ffbad Z (P ++ [⟨st, nd, fr, 0, Q⟩]) R = res) := show ffbad Z (P ++ [⟨st, nd, fr, 0, Q⟩]) R = res by rw [← HF.out, ffbad_no (badF_good rfl HGD.out.1 HGD.out.2 HN.out)]
              clear hri hQT
              go_wp2_with fail
              exact ⟨⟨P ++ [⟨st, nd, fr, 0, Q⟩], R, by rw [HPR.out, List.append_assoc]; rfl, by simp, HE.out, HBI.out⟩, by simp [intOf]; omega⟩
            | cons y T =>
              have hltq : Q.length < ml := by have := HML.out; rw [hQT] at this; simp at this; omega
              have hy : M[Q.length]? = some y := by rw [hQT]; simp
              obtain ⟨yb, yo, rfl, hyb, y0, y1, y2, y3⟩ := hri _ _ hy
              have HQT : Hid (M = Q ++ y :: T) := hQT
              clear hri hQT hy
              obtain ⟨o, k, v, g⟩ := y
              simp only at y0 y1 y2 y3
              have HS : Hid (∀ W, Below w.heap.size w W → Calls Try.prog 22 #[.slice b ls capS, .agg #[.int .i64 o, .string k, .string v, .bool g]] W (RetB ((⟨o, k, v, g⟩ : Rec).zero ∈ Z) W)) := HSD.out ⟨o, k, v, g⟩
              go_wp2_with fail
              refine (HS.out _ HBI.out).mono ?_
              rintro e w2 ⟨t, rfl, ht, hb2⟩
              have HT2 : Hid (t = true ↔ (⟨o, k, v, g⟩ : Rec).zero ∈ Z) := ht
              have HB2 : Hid (Below w.heap.size w w2) := HBI.out.trans (hb2.mono hwr2)
              clear ht hb2 y0 y1 y2 y3 c4
              cases t
              · have HR : Hid (resF res = .tuple #[.int .i64 3, .int .i64 (P.length : Nat)]) := retF (e := 3) (by rw [← HF.out, ffbad_yes (badF_none rfl HGD.out.1 HGD.out.2 (fun h => by have := HT2.out.2 (h ⟨o, k, v, g⟩ (by rw [HQT.out]; simp)); cases this)) (by omega)])
                go_wp2_with fail
                go_ret2
                exact ⟨by rw [HR.out]; rfl, HB2.out⟩
              · have HN2 : Hid (∀ r ∈ Q ++ [⟨o, k, v, g⟩], r.zero ∈ Z) := fun r hr => by
                  rw [List.mem_append, List.mem_singleton] at hr
                  rcases hr with hr | rfl
                  · exact HN.out r hr
                  · exact HT2.out.1 (by first | rfl | trivial)
                go_wp2_with fail
                exact ⟨⟨Q ++ [⟨o, k, v, g⟩], T, by rw [HQT.out, List.append_assoc]; rfl, by simp, HN2.out, HB2.out⟩, by simp [intOf]; omega⟩
        · have HR : Hid (resF res = .tuple #[.int .i64 110, .int .i64 (P.length : Nat)]) := retF (e := 110) (by rw [← HF.out, ffbad_yes (badF_ord rfl (HT.out.1 (by first | rfl | trivial))) (by omega)])
          go_wp2_with fail
          go_ret2
          exact ⟨by rw [HR.out]; rfl, HB1.out⟩
      · have HE : Hid (ffbad Z (P ++ [⟨st, nd, fr, er, M⟩]) R = res) := show ffbad Z (P ++ [⟨st, nd, fr, er, M⟩]) R = res by rw [← HF.out, ffbad_no (badF_err he)]
        go_wp2_with fail
        exact ⟨⟨P ++ [⟨st, nd, fr, er, M⟩], R, by rw [HPR.out, List.append_assoc]; rfl, by simp, HE.out, HB.out⟩, by simp [intOf]; omega⟩
end Go.Proofs.Ytbjlnbcnjknheaa
