/- Layer 18: Keeps walked, of acks that go with what was said, and fetches behind all of them or none. -/
import Derived.Test.YtebfpffilepfaaaKp
import Derived.Test.YtebfpffilepfaaaKf
namespace Go.Proofs.Ytebfpffilepfaaa
open Go.RowKit Go.Maps Go.Shelf
set_option linter.unusedVariables false
set_option maxRecDepth 20000

/-- A fetch behind all dues that lacks one. -/
def Lk (D : List Due) (f : Fe) : Prop := (∀ d ∈ D, d.step < f.step) ∧ Lacks D f.from' f.rec'
/-- What Keeps answers. -/
def KeepsE (D : List Due) (F : List Fe) (w : World) (e : Ending) (w' : World) : Prop :=
  ((e = .returned (.tuple #[.int .i64 0, .int .i64 0]) ∧ ∀ f ∈ F, ¬ Lk D f) ∨ ∃ P f R, F = P ++ f :: R ∧ Lk D f ∧ e = .returned (.tuple #[.int .i64 120, .int .i64 (P.length : Nat)]) ∧ ∀ x ∈ P, ¬ Lk D x) ∧ Below w.heap.size w w'
/-- Fetches behind all dues, or none. -/
def Sides (D : List Due) (F : List Fe) : Prop := ∀ f ∈ F, f.err = 0 ∧ f.step ≤ 9223372036854775807 ∧ f.rec'.length ≤ 1000000000 ∧ ((∀ d ∈ D, d.step < f.step) ∨ ∀ d ∈ D, f.step ≤ d.step)
theorem Lk_high {D : List Due} {f : Fe} (h : ∀ d ∈ D, f.step ≤ d.step) : ¬ Lk D f := by
  rintro ⟨h1, z, hz, d, hd, _⟩
  have := h1 d hd
  have := h d hd
  omega
set_option maxHeartbeats 8000000 in
theorem keeps_ok (a : Option Addr) (cap : Nat) (L : List Ak) (fa : Option Addr) (fcap : Nat) (F : List Fe) (sa : Option Addr) (scap : Nat) (S : List Sd) (DL D : List Due) (w : World) (hin : AIn w a L) (hok : AOk L) (hg : ∀ x ∈ L, x.goodB = true) (hap : Apart L) (hfin : FIn w fa F) (hfo : FOk F) (hsin : SInC w sa S) (hg2 : Goes2 L S) (hDL : duesOf L S = DL) (hD : DL.filter (keepB (DL.map Due.rec' ++ noted F)) = D) (hup : DUp DL) (hdo : ∀ d ∈ DL, d.rec'.ok) (hsd : Sides D F) (hbnd : DL.length + fsum F ≤ 100000) (hlen : L.length ≤ 1000000) (hslen : S.length ≤ 1000000) (hfl : F.length ≤ 100000) :
    Calls Try.prog 7 #[.slice a L.length cap, .slice fa F.length fcap, .slice sa S.length scap] w (KeepsE D F w) := by
  have H1 : Hid (Calls Try.prog 17 #[.slice a L.length cap, .slice sa S.length scap] w fun e w' => ∃ v, e = .returned v ∧ DW w w.heap.size w' v DL) := by
    have := acked_ok a cap L sa scap S w hin hok hg hap hsin hg2 (by rw [hDL]; omega) hlen hslen
    rw [hDL] at this
    exact this
  have H2 : Hid (∀ W oa oc, DIn W oa DL → Below w.heap.size w W → Calls Try.prog 16 #[.slice oa DL.length oc, .slice fa F.length fcap] W fun e w' => ∃ v B, e = .returned v ∧ DW W B w' v D) := fun W oa oc hi hb => by
    have := ones_ok oa oc DL fa fcap F W hi hdo hup (hfin.below hb (Nat.le_refl _)) hfo hbnd hfl
    rw [hD] at this
    exact this
  have hDs : ∀ d ∈ D, d ∈ DL := fun d hd => by rw [← hD] at hd; exact (List.mem_filter.1 hd).1
  have hDu : DUp D := by rw [← hD]; exact List.Pairwise.filter _ hup
  have hDl : D.length ≤ DL.length := by rw [← hD]; exact List.length_filter_le _ _
  have H3 : Hid (∀ W oa oc, DIn W oa D → Calls Try.prog 15 #[.slice oa D.length oc] W (NewD W oa oc D)) := fun W oa oc hi => newDues_ok oa oc D W hi hDu (by omega)
  have HDD : Hid (DUp D ∧ ∀ d ∈ D, d.rec'.ok) := ⟨hDu, fun d hd => hdo d (hDs d hd)⟩
  have HFI : Hid (FIn w fa F) := hfin
  have HFO : Hid (FOk F ∧ Sides D F) := ⟨hfo, hsd⟩
  obtain ⟨n, hn⟩ : ∃ n, L.length = n := ⟨_, rfl⟩
  obtain ⟨m, hm⟩ : ∃ m, S.length = m := ⟨_, rfl⟩
  obtain ⟨fl, hf⟩ : ∃ fl, F.length = fl := ⟨_, rfl⟩
  obtain ⟨p, hp⟩ : ∃ p, DL.length = p := ⟨_, rfl⟩
  obtain ⟨q, hq⟩ : ∃ q, D.length = q := ⟨_, rfl⟩
  have HL : Hid (F.length = fl ∧ DL.length = p ∧ D.length = q) := ⟨hf, hp, hq⟩
  rw [hn, hm] at H1
  rw [hp, hf] at H2
  rw [hq] at H3
  rw [hf] at hfl
  rw [hn, hm, hf]
  clear hin hok hg hap hfin hfo hsin hg2 hDL hD hup hdo hsd hbnd hlen hslen hn hm hf hp hq hDs hDu hDl
  go_enter Try.func7, Try.ntmps7
  go_wp2_with fail
  refine H1.out.mono ?_
  rintro e w1 ⟨v1, rfl, hd1⟩
  obtain ⟨oa1, oc1, e1⟩ := hd1.form
  subst e1
  have HC2 : Hid (Calls Try.prog 16 #[.slice oa1 p oc1, .slice fa fl fcap] w1 fun e w' => ∃ v B, e = .returned v ∧ DW w1 B w' v D) := H2.out w1 oa1 oc1 hd1.din hd1.bel
  have HB1 : Hid (Below w.heap.size w w1) := hd1.bel
  rw [HL.out.2.1]
  clear hd1
  go_wp2_with fail
  refine HC2.out.mono ?_
  rintro e w2 ⟨v2, B, rfl, hd2⟩
  obtain ⟨oa2, oc2, e2⟩ := hd2.form
  subst e2
  have HC3 : Hid (Calls Try.prog 15 #[.slice oa2 q oc2] w2 (NewD w2 oa2 oc2 D)) := H3.out w2 oa2 oc2 hd2.din
  have HB2 : Hid (Below w.heap.size w w2) := HB1.out.trans (hd2.bel.mono HB1.out.size)
  rw [HL.out.2.2]
  clear hd2
  go_wp2_with fail
  refine HC3.out.mono ?_
  rintro e w3 ⟨DD, lv, g, T, rfl, hds, htr, _, _, _, hb3⟩
  have HB3 : Hid (Below w.heap.size w w3) := HB2.out.trans (hb3.mono HB2.out.size)
  have HLK : Hid (∀ W st nd fr ra rc M, Below w3.heap.size w3 W → ROk M → M.length ≤ 1000000000 → RIn W ra M → ((∀ d ∈ D, d.step < st) ∨ ∀ d ∈ D, st ≤ d.step) → st ≤ 9223372036854775807 → Calls Try.prog 18 #[.pointer (some ⟨DD, 0, none⟩), .agg #[.int .i64 st, .int .i64 nd, .int .i64 fr, .int .i64 0, .slice ra M.length rc]] W (RetD (Lk D ⟨st, nd, fr, 0, M⟩) W)) := fun W st nd fr ra rc M hb ho hl hr hs hs2 => by
    rcases hs with hs | hs
    · refine (lackIn_low DD oa2 oc2 D lv g T st nd fr 0 ra rc M W (hds.below hb) htr HDD.out.1 HDD.out.2 hs hr ho hl).mono ?_
      rintro e w' ⟨t, h1, h2, h3⟩
      exact ⟨t, h1, h2.trans ⟨fun h => ⟨hs, h⟩, fun h => h.2⟩, h3⟩
    · refine (lackIn_high DD oa2 oc2 D lv g T st nd fr 0 ra rc M W (hds.below hb) htr HDD.out.1 HDD.out.2 hs hs2 hr ho hl).mono ?_
      rintro e w' ⟨t, h1, h2, h3⟩
      exact ⟨t, h1, h2.trans ⟨fun h => h.elim, fun h => Lk_high hs h⟩, h3⟩
  clear hds htr hb3
  go_wp2_with fail
  go_loopw [19] (fun i wr => ∃ P R, F = P ++ R ∧ i = .int .i64 (P.length : Nat) ∧ (∀ x ∈ P, ¬ Lk D x) ∧ Below w.heap.size w wr ∧ Below w3.heap.size w3 wr) (fun i _ => fl - (intOf i).toNat)
  case atStart => exact ⟨[], F, rfl, rfl, fun x hx => by simp at hx, HB3.out, Below.refl _ _⟩
  case round =>
    obtain ⟨P, R, hPR, rfl, hno, hb, hb'⟩ := hrel
    have HB : Hid (Below w.heap.size w wr ∧ Below w3.heap.size w3 wr) := ⟨hb, hb'⟩
    have HNO : Hid (∀ x ∈ P, ¬ Lk D x) := hno
    have hwr : w.heap.size ≤ wr.heap.size := hb.size
    have hw3 : w3.heap.size ≤ wr.heap.size := hb'.size
    clear hno hb hb'
    cases R with
    | nil =>
      have hPL : P.length = fl := by have := HL.out.1; rw [hPR, List.append_nil] at this; exact this
      have HE : Hid (F = P) := by rw [List.append_nil] at hPR; exact hPR
      clear hPR
      go_wp2_with fail
      go_ret2
      exact ⟨.inl ⟨rfl, by rw [HE.out]; exact HNO.out⟩, HB.out.1⟩
    | cons x R =>
      have hlt : P.length < fl := by have := HL.out.1; rw [hPR] at this; simp at this; omega
      have hx : F[P.length]? = some x := by rw [hPR]; simp
      obtain ⟨hro, hrl⟩ := HFO.out.1 x (by rw [hPR]; simp)
      obtain ⟨he, hs1, hs2, hs3⟩ := HFO.out.2 x (by rw [hPR]; simp)
      obtain ⟨sb, so, ra, rc, rfl, hsb, c0, c1, c2, c3, c4, hri⟩ := HFI.out.below HB.out.1 (Nat.le_refl _) _ _ hx
      have HPR : Hid (F = P ++ x :: R) := hPR
      obtain ⟨st, nd, fr, er, M⟩ := x
      simp only at he hs1 hs2 hs3 c0 c1 c2 c3 c4 hri hro hrl
      subst he
      obtain ⟨ml, hml⟩ : ∃ ml, M.length = ml := ⟨_, rfl⟩
      have HC : Hid (∀ W, Below wr.heap.size wr W → Calls Try.prog 18 #[.pointer (some ⟨DD, 0, none⟩), .agg #[.int .i64 st, .int .i64 nd, .int .i64 fr, .int .i64 0, .slice ra ml rc]] W (RetD (Lk D ⟨st, nd, fr, 0, M⟩) W)) := fun W hb => by
        have := HLK.out W st nd fr ra rc M (HB.out.2.trans (hb.mono HB.out.2.size)) hro hs2 (hri.bel hb) hs3 hs1
        rw [hml] at this
        exact this
      rw [hml] at c4
      clear hPR hx hro hri hs1 hs2 hs3 hrl hml
      obtain ⟨Z, hZ⟩ : ∃ Z, Lk D ⟨st, nd, fr, 0, M⟩ = Z := ⟨_, rfl⟩
      have HZ : Hid (Lk D ⟨st, nd, fr, 0, M⟩ = Z) := hZ
      rw [hZ] at HC
      clear hZ
      have HB5 : Hid (Below wr.heap.size wr (wr.alloc (.cells #[.int .i64 st, .int .i64 nd, .int .i64 fr, .int .i64 0, .slice ra ml rc] 40)) ∧ (wr.alloc (.cells #[.int .i64 st, .int .i64 nd, .int .i64 fr, .int .i64 0, .slice ra ml rc] 40)).heap[wr.heap.size]? = some (.cells #[.int .i64 st, .int .i64 nd, .int .i64 fr, .int .i64 0, .slice ra ml rc] 40 (0, 0))) := ⟨below_a _ _, heap_alloc_new _ _⟩
      go_upto_region 5 with fail
      generalize (wr.alloc (.cells #[.int .i64 st, .int .i64 nd, .int .i64 fr, .int .i64 0, .slice ra ml rc] 40)) = w5 at HB5
      clear c0 c1 c2 c3 c4
      obtain ⟨d0, d1, d2, d3, d4⟩ := cells5 HB5.out.2
      go_wp2_with fail
      refine (HC.out _ HB5.out.1).mono ?_
      rintro e w6 ⟨t, rfl, ht, hb6⟩
      have HT : Hid (t = true ↔ Z) := ht
      have HB6 : Hid (Below w.heap.size w w6 ∧ Below w3.heap.size w3 w6) := by
        have hb5 : Below wr.heap.size wr w6 := HB5.out.1.trans (hb6.mono HB5.out.1.size)
        exact ⟨HB.out.1.trans (hb5.mono hwr), HB.out.2.trans (hb5.mono hw3)⟩
      clear ht hb6 d0 d1 d2 d3 d4
      cases t
      · have HN : Hid (∀ x ∈ P ++ [(⟨st, nd, fr, 0, M⟩ : Fe)], ¬ Lk D x) := fun x hx => by
          rw [List.mem_append, List.mem_singleton] at hx
          rcases hx with hx | rfl
          · exact HNO.out x hx
          · rw [HZ.out]
            intro h
            have := HT.out.2 h
            cases this
        go_wp2_with fail
        exact ⟨⟨P ++ [⟨st, nd, fr, 0, M⟩], R, by rw [HPR.out, List.append_assoc]; rfl, by simp, HN.out, HB6.out.1, HB6.out.2⟩, by simp [intOf]; omega⟩
      · have HY : Hid (Lk D ⟨st, nd, fr, 0, M⟩) := by
          show Lk D ⟨st, nd, fr, 0, M⟩
          rw [HZ.out]; exact HT.out.1 rfl
        go_wp2_with fail
        go_ret2
        exact ⟨.inr ⟨P, ⟨st, nd, fr, 0, M⟩, R, HPR.out, HY.out, rfl, HNO.out⟩, HB6.out.1⟩
end Go.Proofs.Ytebfpffilepfaaa
