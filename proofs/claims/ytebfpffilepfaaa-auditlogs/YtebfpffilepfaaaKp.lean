/- Layer 18: lastOnes walked. -/
import Derived.Test.YtebfpffilepfaaaKo
namespace Go.Proofs.Ytebfpffilepfaaa
open Go.RowKit Go.Maps Go.Shelf
set_option linter.unusedVariables false
set_option maxRecDepth 20000

theorem kindP : MKind 36 82 3 Rec.v inV inD inR 0 where
  law := lawR
  ty := Try.underlying82
  zero := fun w => by kernel_rfl
  reads := fun b => rfl
  inv := inR_inv
  inj := fun a b h => by simpa [inD] using h
  kinj := fun a b h => Rec.v_inj h
abbrev PlMap (w : World) (mb n : Nat) (g : Rec → Option Int) : Prop := MT 36 Rec.v inD inR 0 w mb n g
/-- No record of its key stands behind a due. -/
def keepB (N : List Rec) (d : Due) : Bool := decide (¬ (hiO N d.rec'.key).getD 0 > d.off)
/-- What lastOnes knows. -/
structure LW (w wr : World) (B n : Nat) (N : List Rec) (v : Value) (O : List Due) (g : Rec → Option Int) : Prop where
  la : LaMap wr w.heap.size N.length (hiO N)
  pl : PlMap wr B n g
  dw : DW w B wr v O
  lt : w.heap.size < B
theorem LW.below {w wr w' : World} {B n : Nat} {N : List Rec} {v : Value} {O : List Due} {g : Rec → Option Int} (h : LW w wr B n N v O g) (hb : Below wr.heap.size wr w') : LW w w' B n N v O g :=
  ⟨h.la.below hb, h.pl.below hb, h.dw.below hb, h.lt⟩
theorem LW.mono {w wr : World} {B n n' : Nat} {N : List Rec} {v : Value} {O : List Due} {g : Rec → Option Int} (h : LW w wr B n N v O g) (hn : n ≤ n') : LW w wr B n' N v O g :=
  ⟨h.la, h.pl.mono hn, h.dw, h.lt⟩
theorem LW.put {w wr w' : World} {B n n' : Nat} {N : List Rec} {v : Value} {O : List Due} {g g' : Rec → Option Int} (h : LW w wr B n N v O g) (hg : wr.grownBy w' (some B)) (hp : PlMap w' B n' g') : LW w w' B n' N v O g' :=
  ⟨h.la.block (hg.block _ h.la.lt (fun e => by have := Option.some.inj e; have := h.lt; omega)), hp, h.dw.grown (Nat.le_of_lt h.lt) hg, h.lt⟩
theorem LW.snoc {w wr W w' : World} {B n g5 cap : Nat} {N : List Rec} {v : Value} {O : List Due} {g : Rec → Option Int} {d : Due} (h : LW w wr B n N v O g) (hb : Below wr.heap.size wr W) (hg : W.grownBy w' v.ownBlock) (ho : w'.ownsRow (B + 1) 74 5 (.slice (some ⟨g5, 0, none⟩) (O.length + 1) cap) (O.length + 1) (dcs O ++ dc d)) : LW w w' B n N (.slice (some ⟨g5, 0, none⟩) (O.length + 1) cap) (O ++ [d]) g := by
  have hW := h.below hb
  have hne : ∀ k, k ≤ B → some k ≠ v.ownBlock := fun k hk e => by have := own_block hW.dw.row e.symm; omega
  have := h.lt
  exact ⟨hW.la.block (hg.block _ hW.la.lt (hne _ (by omega))), hW.pl.block (hg.block _ hW.pl.lt (hne _ (Nat.le_refl _))), h.dw.snoc (Nat.le_of_lt h.lt) hb hg ho, h.lt⟩
theorem gPut (g : Rec → Option Int) (x : Rec) (m : Int) : ∃ g' : Rec → Option Int, g' x = some m ∧ ∀ y, y ≠ x → g' y = g y := by
  classical
  exact ⟨fun y => if y = x then some m else g y, by simp, fun y hy => by simp [hy]⟩
set_option maxHeartbeats 8000000 in
theorem ones_ok (a : Option Addr) (cap : Nat) (L : List Due) (fa : Option Addr) (fcap : Nat) (F : List Fe) (w : World) (hin : DIn w a L) (hdo : ∀ d ∈ L, d.rec'.ok) (hup : DUp L) (hfin : FIn w fa F) (hfo : FOk F) (hsum : L.length + fsum F ≤ 100000) (hfl : F.length ≤ 100000) :
    Calls Try.prog 16 #[.slice a L.length cap, .slice fa F.length fcap] w fun e w' => ∃ v B, e = .returned v ∧ DW w B w' v (L.filter (keepB (L.map Due.rec' ++ noted F))) := by
  have HF : Hid (Calls Try.prog 22 #[.slice a L.length cap, .slice fa F.length fcap] w fun e w' => e = .returned (.map (some w.heap.size)) ∧ LO w w' (L.map Due.rec' ++ noted F)) := lasts_ok a cap L fa fcap F w hin hdo hfin hfo hsum hfl
  have HIN : Hid (DIn w a L) := hin
  have HDO : Hid ((∀ d ∈ L, d.rec'.ok) ∧ DUp L) := ⟨hdo, hup⟩
  obtain ⟨N, hN⟩ : ∃ N, L.map Due.rec' ++ noted F = N := ⟨_, rfl⟩
  have hlen : L.length ≤ 100000 := by omega
  obtain ⟨len, hl⟩ : ∃ len, L.length = len := ⟨_, rfl⟩
  have HL : Hid (L.length = len) := hl
  obtain ⟨fl, hf⟩ : ∃ fl, F.length = fl := ⟨_, rfl⟩
  rw [hN, hl, hf] at HF
  rw [hl] at hlen
  rw [hN, hl, hf]
  clear hin hdo hup hfin hfo hsum hfl hN hl hf
  obtain ⟨i0, hi, hz0, hz1, hz2⟩ := info_of dueInfo
  have HI : Hid (Try.prog.info? 74 = some i0 ∧ i0.zero = some zDue ∧ i0.size = 5 ∧ i0.bytes = 56) := ⟨hi, hz0, hz1, hz2⟩
  clear hi hz0 hz1 hz2
  have hmm := @run_makeMap Try.prog
  go_enter Try.func16, Try.ntmps16
  go_wp2_with fail
  refine HF.out.mono ?_
  rintro e w1 ⟨rfl, hO⟩
  obtain ⟨B, hB⟩ : ∃ B, w1.heap.size = B := ⟨_, rfl⟩
  have HA : Hid (LW w (w1.alloc (.map #[] 0)) B 0 N (.slice none 0 0) [] (fun _ => none)) := by
    have hO' := hO.below (below_a w1 (.map #[] 0))
    refine ⟨hO'.map, ?_, ⟨World.ownsRow_nil _ _ _ _, hO'.bel⟩, by rw [← hB]; exact hO.map.lt⟩
    rw [← hB]
    exact MT.nil _ _ _ _ _ w1
  clear hO
  go_wp2_with fail
  clear hmm hB
  go_loopw [7, 18] (fun v i wr => ∃ V P R O g, V = v ∧ L = P ++ R ∧ i = .int .i64 (P.length : Nat) ∧ O = P.filter (keepB N) ∧ (∀ d ∈ R, g d.rec' = none) ∧ LW w wr B P.length N V O g) (fun _ i _ => len - (intOf i).toNat)
  case atStart => exact ⟨_, [], L, [], _, rfl, rfl, rfl, rfl, fun _ _ => rfl, HA.out⟩
  case round =>
    obtain ⟨v0, P, R, O, g, rfl, hPR, rfl, hOe, hgn, hW⟩ := hrel
    have HW : Hid (LW w wr B P.length N v0 O g) := hW
    have HO : Hid (O = P.filter (keepB N)) := hOe
    have hwr : w.heap.size ≤ wr.heap.size := hW.dw.bel.size
    clear hW hOe
    cases R with
    | nil =>
      have hPL : P.length = len := by have := HL.out; rw [hPR, List.append_nil] at this; exact this
      have HE : Hid (L = P) := by rw [List.append_nil] at hPR; exact hPR
      clear hPR hgn
      go_wp2_with fail
      go_ret
      refine ⟨v0, B, rfl, ?_⟩
      rw [HE.out, ← HO.out]
      exact HW.out.dw
    | cons x R =>
      have hlt : P.length < len := by have := HL.out; rw [hPR] at this; simp at this; omega
      have hx : L[P.length]? = some x := by rw [hPR]; simp
      have hxo := HDO.out.1 x (by rw [hPR]; simp)
      have hOl : O.length ≤ P.length := by rw [HO.out]; exact List.length_filter_le _ _
      obtain ⟨sb, so, rfl, hsb, c0, c1, c2, c3, c4⟩ := HIN.out.bel HW.out.dw.bel _ _ hx
      have HPR : Hid (L = P ++ x :: R) := hPR
      have HXO : Hid x.rec'.ok := hxo
      have HGN : Hid (g x.rec' = none ∧ (∀ d ∈ R, g d.rec' = none) ∧ ∀ d ∈ R, d.rec' ≠ x.rec') := by
        refine ⟨hgn x (by simp), fun d hd => hgn d (by simp [hd]), fun d hd e => ?_⟩
        have h1 := HDO.out.2
        rw [hPR] at h1
        have h2 := (List.pairwise_cons.1 (List.pairwise_append.1 h1).2.1).1 d hd
        unfold Due.off at h2
        rw [e] at h2
        omega
      have HKP : Hid (∀ b, keepB N x = b → (P ++ [x]).filter (keepB N) = if b then O ++ [x] else O) := fun b hb => by
        rw [List.filter_append, ← HO.out]
        cases b <;> simp [hb]
      clear hPR hx hxo hgn
      obtain ⟨⟨o, k, v, gn⟩, s⟩ := x
      simp only at c0 c1 c2 c3 c4 HGN HKP
      obtain ⟨U, hU⟩ : ∃ U, wr.heap.size = U := ⟨_, rfl⟩
      have HU : Hid (wr.heap.size = U) := hU
      have HB5 : Hid (Below wr.heap.size wr (wr.alloc (.cells #[.int .i64 o, .string k, .string v, .bool gn, .int .i64 s] 74)) ∧ (wr.alloc (.cells #[.int .i64 o, .string k, .string v, .bool gn, .int .i64 s] 74)).heap[U]? = some (.cells #[.int .i64 o, .string k, .string v, .bool gn, .int .i64 s] 74 (0, 0))) := by
        rw [← hU]
        exact ⟨below_a _ _, heap_alloc_new _ _⟩
      go_upto_region 7 with fail
      clear hU
      generalize (wr.alloc (.cells #[.int .i64 o, .string k, .string v, .bool gn, .int .i64 s] 74)) = w5 at HB5
      clear c0 c1 c2 c3 c4
      obtain ⟨d0, d1, d2, d3, d4⟩ := cells5 HB5.out.2
      have HW5 : Hid (LW w w5 B P.length N v0 O g) := HW.out.below HB5.out.1
      have hl := (HW5.out.la.look kindL k (keyS HXO.out.2.1)).2
      obtain ⟨hi, hhi⟩ : ∃ hi, (hiO N k).getD 0 = hi := ⟨_, rfl⟩
      have HHI : Hid ((hiO N k).getD 0 = hi) := hhi
      rw [hhi] at hl
      clear hhi
      by_cases hgt : hi > o
      · have HE : Hid ((P ++ [(⟨⟨o, k, v, gn⟩, s⟩ : Due)]).filter (keepB N) = O) := HKP.out false (by
          unfold keepB Due.off
          rw [HHI.out]
          exact decide_eq_false (fun h => h hgt))
        go_wp2_with fail
        exact ⟨⟨v0, P ++ [⟨⟨o, k, v, gn⟩, s⟩], R, O, g, rfl, by rw [HPR.out, List.append_assoc]; rfl, by simp, HE.out.symm, HGN.out.2.1, HW5.out.mono (by simp)⟩, by simp [intOf]; omega⟩
      · have HE : Hid ((P ++ [(⟨⟨o, k, v, gn⟩, s⟩ : Due)]).filter (keepB N) = O ++ [⟨⟨o, k, v, gn⟩, s⟩]) := HKP.out true (by
          unfold keepB Due.off
          rw [HHI.out]
          exact decide_eq_true hgt)
        have hl2 := (HW5.out.pl.look kindP ⟨o, k, v, gn⟩ (keyR HXO.out)).1
        rw [HGN.out.1] at hl2
        simp only [Rec.v, Option.getD_none, Option.isSome_none] at hl2
        obtain ⟨oa, oc, hv0⟩ := HW5.out.dw.form
        subst hv0
        obtain ⟨m, hm⟩ : ∃ m, O.length = m := ⟨_, rfl⟩
        have HM : Hid (O.length = m) := hm
        rw [hm] at HW5 hOl HW ⊢
        clear hm
        go_upto_region 11 with fail
        clear hl hl2
        obtain ⟨g', hq1, hq2⟩ := gPut g ⟨o, k, v, gn⟩ ((m : Nat) : Int)
        obtain ⟨w', hupd, hp', hg'⟩ := HW5.out.pl.put kindP ⟨o, k, v, gn⟩ (m : Nat) (keyR HXO.out) (by unfold maxLen; omega) g' hq1 hq2
        have HP : Hid (LW w w' B (P.length + 1) N (.slice oa m oc) O g' ∧ w'.heap[U]? = some (.cells #[.int .i64 o, .string k, .string v, .bool gn, .int .i64 s] 74 (0, 0))) := by
          refine ⟨HW5.out.put hg' hp', (hg'.block U (lt_of_block HB5.out.2) ?_).trans HB5.out.2⟩
          intro e
          have e' := Option.some.inj e
          have := HW.out.pl.lt
          have := HU.out
          omega
        have HGR : Hid (∀ d ∈ R, g' d.rec' = none) := fun d hd => by
          rw [hq2 _ (HGN.out.2.2 d hd)]
          exact HGN.out.2.1 d hd
        simp only [Rec.v] at hupd
        clear hp' hg' hq1 hq2
        go_upto_region 12 with fail
        clear hupd d0 d1 d2 d3 d4
        obtain ⟨d0, d1, d2, d3, d4⟩ := cells5 HP.out.2
        have HOA : Hid (∀ o, (w'.alloc o).ownsRow (B + 1) 74 5 (.slice oa m oc) m (dcs O) ∧ B + 1 ≤ (w'.alloc o).heap.size) := fun o => by
          refine ⟨?_, ?_⟩
          · have := (HP.out.1.below (below_a w' o)).dw.row
            rw [HM.out] at this
            exact this
          · have h1 := HP.out.1.pl.lt
            have h3 := (below_a w' o).size
            omega
        go_wp2_with (at_builtin; refine wpList_append_lies _ rfl _ _ 65 rfl (B + 1) 74 i0 zDue 5 56 Try.underlying65 HI.out.1 HI.out.2.1 HI.out.2.2.1 HI.out.2.2.2 rfl (by decide) (.slice oa m oc) m (dcs O) rfl (HOA.out _).1 ⟨w'.heap.size, 0, none⟩ 1 1 (dc ⟨⟨o, k, v, gn⟩, s⟩) rfl rfl (newsP _ _ _) (one5 _) (by decide) (by unfold maxLen; omega) (by omega) (HOA.out _).2 _ rfl ?_; intro g5 cap5 w5' hown hgrow hat hgl; have HNX : Hid (LW w w5' B (P.length + 1) N (.slice (some ⟨g5, 0, none⟩) (m + 1) cap5) (O ++ [⟨⟨o, k, v, gn⟩, s⟩]) g') := (by have := HP.out.1.snoc (d := ⟨⟨o, k, v, gn⟩, s⟩) (below_a w' _) hgrow (by rw [HM.out]; exact hown); rw [HM.out] at this; exact this); clear hown hgrow hat hgl)
        exact ⟨⟨_, P ++ [⟨⟨o, k, v, gn⟩, s⟩], R, O ++ [⟨⟨o, k, v, gn⟩, s⟩], g', rfl, by rw [HPR.out, List.append_assoc]; rfl, by simp, HE.out.symm, HGR.out, by rw [List.length_append]; exact HNX.out⟩, by simp [intOf]; omega⟩
end Go.Proofs.Ytebfpffilepfaaa
